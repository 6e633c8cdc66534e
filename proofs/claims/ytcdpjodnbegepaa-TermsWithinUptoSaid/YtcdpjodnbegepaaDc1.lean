/- The contract of Clone of a row of expressions; layer 30 (terms). -/
import Derived.Test.YtcdpjodnbegepaaRps
import Derived.Lib.Slices
namespace Go.Proofs.Ytcdpjodnbegepaa
open Go.RowKit


theorem add_block' (a : Addr) (n : Nat) : (a.add n).block = a.block := by unfold Addr.add; split <;> rfl
def CloneP (w : World) (n : Nat) (cs : List Value) (e : Ending) (w' : World) : Prop := ∃ A c, e = .returned (.slice A n c) ∧ Below w.heap.size w w' ∧
  (0 < n → ∃ g, A = some ⟨g, 0, none⟩ ∧ w.heap.size ≤ g ∧ g < w'.heap.size ∧ (∀ j, j < n * 4 → w'.cell? ⟨g, j, none⟩ = cs[j]?) ∧ ∀ j, w'.frozen? ⟨g, j, none⟩ = false)
set_option maxRecDepth 100000 in
set_option maxHeartbeats 2000000 in
theorem pr_Clone (A : Option Addr) (n c : Nat) (cs : List Value) (w : World) (hn : n ≤ 1000000000) (hl : cs.length = n * 4) (h1 : ∀ u ∈ cs, u.oneCell' = true) (hA : A = none → n = 0)
    (hc : ∀ ad, A = some ad → ∀ j u, cs[j]? = some u → w.cell? (ad.add j) = some u) (hb : ∀ ad, A = some ad → n = 0 ∨ ad.block < w.heap.size) :
    Calls Try.prog 79 #[.slice A n c] w (CloneP w n cs) := by
  obtain ⟨i0, hi0, hz0, hz1, hz2⟩ := info_parts info24
  have q24 : ∀ (w : World) (a : Option Addr) (n c n' c' : Nat), (binOp .eql 22 (.slice a n c) (.slice none n' c')).run Try.prog w = .ok (.bool a.isNone) w := fun w a n c n' c' => Lib.run_eql_slice_nil w _ _ a n c n' c' Try.underlying22
  rcases A with _ | ad
  · obtain rfl := hA rfl
    clear hc hb
    go_enter Try.func79, Try.ntmps79
    go_wp2
    go_ret
    exact ⟨none, 0, rfl, Below.refl _ _, fun h => absurd h (by decide)⟩
  · have HC := Lib.hid (hc ad rfl)
    have HB := Lib.hid (hb ad rfl)
    have HL := Lib.hid hl
    have H1 := Lib.hid h1
    clear hc hb hA hl h1
    go_enter Try.func79, Try.ntmps79
    go_wp2_with (at_builtin; refine wpList_append_own _ rfl _ _ 22 rfl w.heap.size 24 i0 _ 4 56 Try.underlying22 hi0 hz0 hz1 hz2 rfl (by decide) _ _ _ rfl (World.ownsRow_made w #[] 0 (Nat.le_refl _) (Nat.zero_le _) rfl) ad n c cs rfl HL.out ?qc2 H1.out ?qc4 ?qc5 ?qc6 ?_)
    case qc2 =>
      intro j u hj
      have h0 := HC.out j u hj
      have hlt : ad.block < w.heap.size := by
        rcases HB.out with h | h
        · have := HL.out
          rw [h] at this
          have e : cs = [] := List.eq_nil_of_length_eq_zero (by omega)
          rw [e] at hj
          cases hj
        · exact h
      have hb2 : Below w.heap.size w (w.alloc (.cells #[] 24)) := (Below.refl _ _).alloc (Nat.le_refl _) _
      exact (hb2.cell (p := ad.add j) (by rw [add_block']; exact hlt)).trans h0
    case qc4 => unfold maxLen; omega
    case qc5 => omega
    case qc6 => simp
    intro v' w1 hown hgrow _
    have hBw : Below w.heap.size w w1 := ((Below.refl _ w).alloc (Nat.le_refl _) _).grown hgrow (by simp) (by intro k hk; simp [Value.ownBlock] at hk; omega)
    have HBw := Lib.hid hBw
    have ho : ∃ A' c', v' = .slice A' n c' ∧ (0 < n → ∃ g, A' = some ⟨g, 0, none⟩ ∧ w.heap.size ≤ g ∧ g < w1.heap.size ∧ (∀ j, j < n * 4 → w1.cell? ⟨g, j, none⟩ = cs[j]?) ∧ ∀ j, w1.frozen? ⟨g, j, none⟩ = false) := by
      rcases hown with ⟨_, ⟨hv, h0⟩ | ⟨g, cap, cur, hv, hg, hh, hnc, hcm, hcs, htk⟩⟩
      · have hn0 : n = 0 := by omega
        subst hn0
        exact ⟨none, 0, hv, fun h => absurd h (by decide)⟩
      · have hk : Blk w1 g 24 cur := hh
        refine ⟨some ⟨g, 0, none⟩, cap, hv, fun _ => ⟨g, rfl, hg, hk.lt, fun j hj => ?_, fun j => hk.frozen j⟩⟩
        rw [hk.cell j]
        have htk2 : cur.toList.take (n * 4) = cs := htk
        rw [← htk2, List.getElem?_take, if_pos hj, Array.getElem?_toList]
    obtain ⟨A', c', rfl, ho2⟩ := ho
    have HO := Lib.hid ho2
    clear hown hgrow hBw ho2
    go_wp2
    go_ret
    exact ⟨A', c', rfl, HBw.out, HO.out⟩
end Go.Proofs.Ytcdpjodnbegepaa
