/- The iterator over a table's entries in order; layer 10 (uniq). -/
import Derived.Test.YtmnolldomipgiaaFn7
namespace Go.Proofs.Ytmnolldomipgiaa
open Go.RowKit Go.Maps
attribute [local go_sem] Oper.semAt_some wide_fn wide_depth

/-- The entries l lie in a block of their own, at B or beyond. -/
def RowX (B : Nat) (w : World) (A : Option Addr) (l : List En) : Prop := 0 < l.length → ∃ g f cs, A = some ⟨g, f, none⟩ ∧ B ≤ g ∧ Blk w g 62 cs ∧ ∀ k, k < l.length →
  cs[f + k * 3]? = some (.int .i64 (ea l k).lo) ∧ cs[f + k * 3 + 1]? = some (.int .i64 (ea l k).hi) ∧ cs[f + k * 3 + 2]? = some (.int .i64 (ea l k).id)
def EntP (M : List En) (w : World) (e : Ending) (w' : World) : Prop := ∃ A c, e = .returned (.slice A M.length c) ∧ RowX w.heap.size w' A M ∧ Below w.heap.size w w'
def PtX (t : TypeId) : Bool := t == 62
def GEach (M : List En) (k : Nat) (x : Array Value) (k' : Nat) (_ : World) : Prop := k < M.length ∧ x = enY (ea M k) ∧ k' = k + 1
set_option maxRecDepth 100000 in
set_option maxHeartbeats 4000000 in
theorem iter_each {w : World} {p : Value} {Bt : Nat} {M : List En} {S : Nat → Prop} (hB : Blk w Bt 23 #[p]) (hent : ∀ W, Below w.heap.size w W → Calls Try.prog 23 #[p] W (EntP M W)) (hM : M.length ≤ 1000000) :
    Iter Try.prog 22 #[.pointer (some ⟨Bt, 0, none⟩)] PtX S (GEach M) 0 (fun k => k = M.length) w := by
  intro l J Jx W hW hJ hJx hY h0
  have hBW := hB.below hW hB.lt
  have e0 := hBW.cell 0
  simp only [List.getElem?_toArray, List.getElem?_cons_zero] at e0
  have HE := Lib.hid (hent W hW)
  have HY := Lib.hid hY
  have HJ := Lib.hid hJ
  have H0 := Lib.hid h0
  have HM := Lib.hid hM
  clear hB hent hW hJ hJx hY h0 hBW hM
  refine callsIn_of_wp Try.func22 rfl trivial ?_ rfl
  simp only [Try.ntmps22, List.size_toArray, List.length_cons, List.length_nil, Nat.reduceAdd, Nat.reduceSub, Array.replicate_succ, Array.replicate_zero, List.push_toArray, List.append_toArray, List.nil_append, List.cons_append]
  gi_wp2_with (gi_at_call 23; refine (callsIn_wide.2 HE.out).mono ?_; rintro e w1 ⟨A, c, rfl, hrow, hb1⟩; have HR := Lib.hid hrow; have HB1 := Lib.hid hb1; clear hrow hb1)
  have HJ1 : Hid (J 0 w1) := Lib.hid (H0.out w1 HB1.out)
  have HZ : Hid (W.heap.size ≤ w1.heap.size) := Lib.hid HB1.out.size
  clear HE H0
  gi_loopw [4, 8] (fun _ i wr => ∃ k : Nat, k ≤ M.length ∧ i = .int .i64 (k : Int) ∧ Hid (J k wr) ∧ Hid (RowX W.heap.size wr A M) ∧ Hid (W.heap.size ≤ wr.heap.size)) (fun _ i _ => M.length - (intOf i).toNat)
  case atStart => exact ⟨0, Nat.zero_le _, rfl, HJ1, HR, HZ⟩
  case round =>
    obtain ⟨k, hk, rfl, HJk, HRk, HZk⟩ := hrel
    clear HJ1 HR HZ
    have hbd := HM.out
    by_cases hlt : k < M.length
    · have l1 : (k : Int) < (M.length : Int) := by omega
      have l0 : (0 : Int) ≤ (k : Int) := by omega
      obtain ⟨g, f, cs, rfl, hg, hblk, hc⟩ := HRk.out (by omega)
      obtain ⟨a0, a1, a2⟩ := hc k hlt
      have d0 := (hblk.cell (f + k * 3)).trans a0
      have d1 := (hblk.cell (f + k * 3 + 1)).trans a1
      have d2 := (hblk.cell (f + k * 3 + 2)).trans a2
      have hJ2 : J k (wr.alloc (.cells (enR (ea M k)) 62)) := HJ.out k wr _ none HJk.out (World.grownBy_alloc wr _ none) (fun r e => by cases e)
      obtain ⟨fn, tmps, assign, body, hy, hR⟩ := HY.out k (enY (ea M k)) (k + 1) _ ⟨hlt, rfl, rfl⟩ hJ2
      have HNx : Hid (∀ W3, KeepsP PtX W.heap.size (wr.alloc (.cells (enR (ea M k)) 62)) W3 → RowX W.heap.size W3 (some ⟨g, f, none⟩) M ∧ W.heap.size ≤ W3.heap.size) := Lib.hid (fun W3 hk3 => by
        have hz := HZk.out
        refine ⟨fun _ => ⟨g, f, cs, rfl, hg, ?_, hc⟩, by have := hk3.size; simp at this; omega⟩
        exact hk3.same g _ hg (hblk.alloc _) rfl)
      clear hc a0 a1 a2 hblk hJ2
      dsimp only [enY] at hy
      unfold enR at *
      generalize ea M k = x at *
      gi_wp2
      refine hR.mono ?_
      rintro e W3 (⟨rfl, hJ4, hk3, hK3⟩ | ⟨rfl, hJx3, hk3⟩)
      · have HJ4 := Lib.hid hJ4
        have HN3 := Lib.hid (HNx.out W3 hk3)
        clear hJ4 hk3 hK3
        gi_wp2
        go_roundw
        case rel => exact ⟨k + 1, by omega, by go_num, HJ4, Lib.hid HN3.out.1, Lib.hid HN3.out.2⟩
        case measure => simp [intOf]; try omega
      · have HJx3 := Lib.hid hJx3
        clear hJx3 hk3
        gi_wp2
        refine bodyPost_ret (results_none rfl _ _ _) rfl ?_
        exact ⟨⟨_, rfl⟩, .inr ⟨_, HJx3.out⟩⟩
    · have l1 : ¬ (k : Int) < (M.length : Int) := by omega
      obtain rfl : k = M.length := by omega
      gi_wp2
      go_end0
      first | exact ⟨⟨_, rfl⟩, .inl HJk.out⟩ | exact ⟨⟨_, rfl⟩, .inl ⟨_, rfl, HJk.out⟩⟩
end Go.Proofs.Ytmnolldomipgiaa
