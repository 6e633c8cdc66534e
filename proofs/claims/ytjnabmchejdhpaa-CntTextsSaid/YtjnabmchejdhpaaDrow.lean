/- Rows of decimal digits (int) of the specification's own, of layer 4 (cnt). -/
import Derived.Test.YtjnabmchejdhpaaFnj
import Derived.Test.YtjnabmchejdhpaaDmath
namespace Go.Proofs.Ytjnabmchejdhpaa
open Go.RowKit

theorem info3 : (Try.prog.info? 3).map (fun i => (i.zero, i.size, i.bytes)) = some (some (.int .i64 0), 1, 8) := by kernel_rfl
def RD (w : World) (B : Nat) (A : Option Addr) (l : List Int) : Prop :=
  0 < l.length → ∃ b off, A = some ⟨b, off, none⟩ ∧ b < B ∧ ∀ i, i < l.length → w.cell? ⟨b, off + i, none⟩ = some (.int .i64 (li l i))
theorem RD.nil {w : World} {B : Nat} {A : Option Addr} : RD w B A [] := fun h => absurd h (by simp)
theorem RD.below {w w' : World} {B : Nat} {A : Option Addr} {l : List Int} (h : RD w B A l) (hb : Below B w w') : RD w' B A l := fun hl => by
  obtain ⟨b, off, e, hB, hc⟩ := h hl
  exact ⟨b, off, e, hB, fun i hi => (hb.cell (p := ⟨b, off + i, none⟩) hB).trans (hc i hi)⟩
theorem RD.more {w : World} {B B' : Nat} {A : Option Addr} {l : List Int} (h : RD w B A l) (hB : B ≤ B') : RD w B' A l := fun hl => by
  obtain ⟨b, off, e, hB, hc⟩ := h hl
  exact ⟨b, off, e, by omega, hc⟩
theorem RD.step {w w' : World} {A : Option Addr} {l : List Int} (h : RD w w.heap.size A l) (hb : Below w.heap.size w w') : RD w' w'.heap.size A l := (h.below hb).more hb.size
def OwnT (w : World) (base : Nat) (v : Value) (l : List Int) : Prop := w.ownsRow base 3 1 v l.length (l.map (Value.int .i64))
theorem OwnT.block {w : World} {base : Nat} {v : Value} {l : List Int} (h : OwnT w base v l) (k : Nat) (e : v.ownBlock = some k) : base ≤ k := by
  rcases h.2 with ⟨rfl, _⟩ | ⟨g, cap, cur, rfl, hg, _⟩
  · simp [Value.ownBlock] at e
  · simp [Value.ownBlock] at e; omega
theorem OwnT.form {w : World} {base : Nat} {v : Value} {l : List Int} (h : OwnT w base v l) : ∃ A c, v = .slice A l.length c ∧ RD w w.heap.size A l ∧ (A = none → c = 0) := by
  rcases h.2 with ⟨rfl, h0⟩ | ⟨g, cap, cur, rfl, hg, hh, hn, hc, hsz, htk⟩
  · have : l = [] := List.eq_nil_of_length_eq_zero h0
    subst this
    exact ⟨none, 0, rfl, RD.nil, fun _ => rfl⟩
  · refine ⟨_, cap, rfl, fun hp => ⟨g, 0, rfl, ?_, fun i hi => ?_⟩, fun e => by cases e⟩
    · rcases Nat.lt_or_ge g w.heap.size with hlt | hge
      · exact hlt
      · rw [Array.getElem?_eq_none hge] at hh; cases hh
    · rw [Nat.zero_add, cell_of_row w g i cur 3 (0, 0) hh]
      have h2 : (l.map (Value.int .i64))[i]? = some (.int .i64 (li l i)) := by unfold li; simp [hi]
      rw [← htk, List.getElem?_take] at h2
      split at h2
      · simpa using h2
      · cases h2
theorem OwnT.push {w : World} {base : Nat} {v : Value} {l : List Int} {b : Int} (h : w.ownsRow base 3 1 v (l.length + 1) (l.map (Value.int .i64) ++ [.int .i64 b])) : OwnT w base v (l ++ [b]) := by
  unfold OwnT; simpa using h
theorem OwnT.set {w : World} {base : Nat} {v : Value} {l : List Int} {i : Nat} (h : OwnT w base v l) (hi : i < l.length) (x : Int) :
    ∃ g c, v = .slice (some ⟨g, 0, none⟩) l.length c ∧ base ≤ g ∧ g < w.heap.size ∧ w.frozen? ⟨g, i, none⟩ = false ∧ OwnT (w.setCell ⟨g, i, none⟩ (.int .i64 x)) base v (l.set i x) := by
  rcases h.2 with ⟨rfl, h0⟩ | ⟨g, cap, cur, rfl, hg, hh, hn, hc, hsz, htk⟩
  · omega
  · have hlt : g < w.heap.size := by
      rcases Nat.lt_or_ge g w.heap.size with hlt | hge
      · exact hlt
      · rw [Array.getElem?_eq_none hge] at hh; cases hh
    have hB : Blk w g 3 cur := hh
    refine ⟨g, cap, rfl, hg, hlt, hB.frozen i, ?_⟩
    have hB2 := hB.set_ i (.int .i64 x)
    refine ⟨by simp, .inr ⟨g, cap, _, by simp, hg, hB2, by simpa using hn, hc, by simpa using hsz, ?_⟩⟩
    simp only [Array.toList_setIfInBounds, List.length_set]
    rw [List.take_set, htk, List.map_set]
theorem OwnT.keep {w w' : World} {base : Nat} {v : Value} {l : List Int} (h : OwnT w base v l) (hb : Below w.heap.size w w') : OwnT w' base v l := by
  obtain ⟨h1, h2⟩ := h
  refine ⟨h1, ?_⟩
  rcases h2 with h2 | ⟨g, cap, cur, e, hg, hh, r⟩
  · exact .inl h2
  · have hlt : g < w.heap.size := by
      rcases Nat.lt_or_ge g w.heap.size with q | q
      · exact q
      · rw [Array.getElem?_eq_none q] at hh; cases hh
    exact .inr ⟨g, cap, cur, e, hg, (hb.block g hlt).trans hh, r⟩
theorem OwnT.grow2 {w wr w1 : World} {B : Nat} {v : Value} {l : List Int} {o : Obj} (hO : OwnT wr B v l) (hb : Below B w wr) (hB : B ≤ wr.heap.size) (hg : (wr.alloc o).grownBy w1 v.ownBlock) : Below B w w1 :=
  (hb.alloc hB _).grown hg (by simp; omega) (fun k e => hO.block k e)
theorem OwnT.at {w : World} {base : Nat} {v : Value} {l : List Int} {i : Nat} (h : OwnT w base v l) (hi : i < l.length) :
    ∃ g c, v = .slice (some ⟨g, 0, none⟩) l.length c ∧ base ≤ g ∧ g < w.heap.size ∧ w.cell? ⟨g, i, none⟩ = some (.int .i64 (li l i)) ∧ w.frozen? ⟨g, i, none⟩ = false ∧
      ∀ x, OwnT (w.setCell ⟨g, i, none⟩ (.int .i64 x)) base v (l.set i x) := by
  obtain ⟨g, c, rfl, h1, h2, h3, _⟩ := h.set hi 0
  refine ⟨g, c, rfl, h1, h2, ?_, h3, fun x => ?_⟩
  · obtain ⟨A, c2, e, hR, _⟩ := h.form
    obtain ⟨b, o, e2, _, hc⟩ := hR (by omega)
    injection e with e3 e4 e5
    rw [← e3] at e2
    injection e2 with e2
    injection e2 with e6 e7 e8
    subst e6 e7
    have := hc i hi
    rwa [Nat.zero_add] at this
  · obtain ⟨g2, c2, e, _, _, _, h4⟩ := h.set hi x
    injection e with e3 e4 e5
    injection e3 with e3
    injection e3 with e3
    subst e3
    exact h4
theorem OwnT.len_cap {w : World} {base : Nat} {v : Value} {l : List Int} (h : OwnT w base v l) : ∃ A c, v = .slice A l.length c ∧ l.length ≤ c ∧ c ≤ maxLen ∧ RD w w.heap.size A l ∧ (A = none → c = 0) := by
  rcases h.2 with ⟨rfl, h0⟩ | ⟨g, cap, cur, rfl, hg, hh, hn, hc, hsz, htk⟩
  · have : l = [] := List.eq_nil_of_length_eq_zero h0
    subst this
    exact ⟨none, 0, rfl, Nat.le_refl _, Nat.zero_le _, RD.nil, fun _ => rfl⟩
  · obtain ⟨A, c, e, hR, hA⟩ := h.form
    injection e with e1 e2 e3
    subst e1 e3
    exact ⟨_, _, rfl, hn, hc, hR, hA⟩
theorem OwnT.nil (w : World) (B : Nat) : OwnT w B (.slice none 0 0) [] := ⟨rfl, .inl ⟨rfl, rfl⟩⟩
theorem copy_i {w : World} {l : List Int} {b off : Nat} (hc : ∀ i, i < l.length → w.cell? ⟨b, off + i, none⟩ = some (.int .i64 (li l i))) (j : Nat) (v : Value) (hj : (l.map (Value.int .i64))[j]? = some v) :
    w.cell? ((⟨b, off, none⟩ : Addr).add j) = some v := by
  rw [List.getElem?_map] at hj
  have hjl : j < l.length := by
    rcases Nat.lt_or_ge j l.length with h | h
    · exact h
    · rw [List.getElem?_eq_none h] at hj; cases hj
  have hv : v = .int .i64 (li l j) := by
    rw [List.getElem?_eq_getElem hjl] at hj
    unfold li; simp [List.getD, List.getElem?_eq_getElem hjl]
    simpa using hj.symm
  have ha : (⟨b, off, none⟩ : Addr).add j = ⟨b, off + j, none⟩ := by unfold Addr.add; split <;> simp_all
  rw [ha, hv]; exact hc j hjl
theorem RD.src {w : World} {B : Nat} {ad : Addr} {l : List Int} (h : RD w B (some ad) l) (j : Nat) (u : Value) (hj : (l.map (Value.int .i64))[j]? = some u) : w.cell? (ad.add j) = some u ∧ (ad.add j).block < B := by
  have hp : 0 < l.length := by
    rcases l with _ | ⟨x, l⟩
    · simp at hj
    · simp
  obtain ⟨b, off, e, hb, hc⟩ := h hp
  injection e with e
  subst e
  exact ⟨copy_i hc j u hj, by rw [add_block]; exact hb⟩

/-- The slice .slice A l.length c is a row of digits in w. -/
structure Dn (w : World) (A : Option Addr) (c : Nat) (l : List Int) : Prop where
  row : RD w w.heap.size A l
  dig : DigT l
  cap : l.length ≤ c
  max : c ≤ maxLen
  nil : A = none → c = 0
theorem Dn.step {w w' : World} {A : Option Addr} {c : Nat} {l : List Int} (h : Dn w A c l) (hb : Below w.heap.size w w') : Dn w' A c l := ⟨h.row.step hb, h.dig, h.cap, h.max, h.nil⟩
/-- A number that a call of the specification gives. -/
def ResT (w w' : World) (x : Int) (M : Nat) (e : Ending) : Prop :=
  ∃ A c l, e = .returned (.slice A l.length c) ∧ Dn w' A c l ∧ nrmT l = true ∧ valT l = x ∧ l.length ≤ M ∧ Below w.heap.size w w'
theorem OwnT.dn {w : World} {B : Nat} {v : Value} {l : List Int} (h : OwnT w B v l) (hD : DigT l) : ∃ A c, v = .slice A l.length c ∧ Dn w A c l := by
  obtain ⟨A, c, rfl, h1, h2, hR, hA⟩ := h.len_cap
  exact ⟨A, c, rfl, hR, hD, h1, h2, hA⟩

set_option maxHeartbeats 1000000 in
theorem ref_at (A : Option Addr) (ca : Nat) (l : List Int) (i : Nat) (w : World) (h : RD w w.heap.size A l) (hl : l.length ≤ 1000000000) (hi : i ≤ 1000000000) :
    Calls Try.prog 33 #[.slice A l.length ca, .int .i64 (i : Int)] w fun e w' => e = .returned (.int .i64 (li l i)) ∧ w = w' := by
  have H := Lib.hid h
  clear h
  by_cases c : i < l.length
  · obtain ⟨b, o, rfl, _, hc⟩ := H.out (by omega)
    have e1 := hc i c
    have c' : (i : Int) < (l.length : Int) := by omega
    clear hc
    go_enter Try.func33, Try.ntmps33
    go_wp2
    go_ret
    exact ⟨rfl, rfl⟩
  · have c' : ¬ (i : Int) < (l.length : Int) := by omega
    have HZ : Hid (li l i = 0) := Lib.hid (by unfold li; simp [List.getD, List.getElem?_eq_none (show l.length ≤ i by omega)])
    go_enter Try.func33, Try.ntmps33
    go_wp2
    go_ret
    exact ⟨by rw [HZ.out]; rfl, rfl⟩
end Go.Proofs.Ytjnabmchejdhpaa
