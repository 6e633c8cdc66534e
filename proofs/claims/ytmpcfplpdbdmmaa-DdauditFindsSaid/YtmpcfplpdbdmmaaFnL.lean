/- The chapter's example; layer 25 (ddaudit). -/
import Derived.Test.YtmpcfplpdbdmmaaFn7
import Derived.Deep.QuietTactic
import Derived.BigQuiet
namespace Go.Proofs.Ytmpcfplpdbdmmaa
open Go.RowKit Go.Maps

def n1 : Nd := ⟨1, 1, 1, 0, 0⟩
def n2 : Nd := ⟨2, 1, 2, 3, 0⟩
theorem skey_ne : skey 1 1 0 ≠ skey 1 2 3 := fun h => by
  have := skey_inj (by simp [In64]) (by simp [In64]) (by simp [In64]) (by simp [In64]) (by simp [In64]) (by simp [In64]) h
  omega
theorem lives_all : allF [0, 1] [n1, n2] 2 = [⟨4, 2⟩, ⟨1, 2⟩] := by
  have e : ∀ (k : Nat), [n1, n2].take k = match k with | 0 => [] | 1 => [n1] | _ => [n1, n2] := fun k => by
    match k with
    | 0 => rfl
    | 1 => rfl
    | k + 2 => simp
  have s := skey_ne
  simp [allF, partF, kd, vioK, vioP, na, n1, n2, negF, lostP, underP, nodeF, topsF, topStep, putF, posZ, idxF, idxN, metS, shS, s]
theorem eql_fd (t : Nat) (ht : t = 30 ∨ t = 31) (a b c d : Int) (w : World) : (binOp .eql t (.agg #[.int .i64 a, .int .i64 b]) (.agg #[.int .i64 c, .int .i64 d])).run Try.prog w = .ok (.bool (decide (a = c) && decide (b = d))) w := by
  have u3 := Try.underlying3
  have a3' := Try.isAgg3
  have z3 := Try.sizeOf3
  have hS : Try.prog.underlying t = some (.struct (Try.prog.fieldsOf t)) := by rcases ht with rfl | rfl <;> kernel_rfl
  have hp : Try.prog.stoodInHeld t = false := by rcases ht with rfl | rfl <;> kernel_rfl
  rw [run_eql_struct, show (10000 : Nat) = 9999 + 1 from rfl, run_equalIn_agg w 9999 t _ _ hS hp]
  rcases ht with rfl | rfl
  · simp only [Program.fieldsOf, Try.underlying30]
    go_simp
    by_cases h0 : a = c <;> by_cases h1 : b = d <;> simp [h0, h1]
  · simp only [Program.fieldsOf, Try.underlying31]
    go_simp
    by_cases h0 : a = c <;> by_cases h1 : b = d <;> simp [h0, h1]
theorem OwnF.cells {w : World} {B et v l} (h : OwnF w B et v l) : ∃ A c, v = .slice A l.length c ∧ ∀ i x, l[i]? = some x → ∃ g, A = some ⟨g, 0, none⟩ ∧ g < w.heap.size ∧ w.cell? ⟨g, i * 2, none⟩ = some (.int .i64 x.k) ∧ w.cell? ⟨g, i * 2 + 1, none⟩ = some (.int .i64 x.id) := by
  have hlt := fun b => @OwnF.lt w B et v l h b
  obtain ⟨hl, h⟩ := h
  rcases h with ⟨rfl, h0⟩ | ⟨g, cap, cur, rfl, hg, hh, hn, hc, hsz, htk⟩
  · refine ⟨none, 0, by rw [h0], fun i x hx => ?_⟩
    have := List.eq_nil_of_length_eq_zero h0
    subst this; simp at hx
  · refine ⟨_, cap, rfl, fun i x hx => ⟨g, rfl, hlt _ rfl, ?_⟩⟩
    have hB : Blk w g et cur := hh
    have hi : i < l.length := (List.getElem?_eq_some_iff.1 hx).1
    have key : ∀ j u, j < 2 → (fdC l)[i * 2 + j]? = some u → w.cell? ⟨g, i * 2 + j, none⟩ = some u := fun j u hj hu => by
      rw [hB.cell]
      rw [← htk, List.getElem?_take_of_lt (by omega)] at hu
      rw [← Array.getElem?_toList]; exact hu
    have fd_at : ∀ (L : List Fd) (i : Nat) (x : Fd), L[i]? = some x → (fdC L)[i * 2 + 0]? = some (.int .i64 x.k) ∧ (fdC L)[i * 2 + 1]? = some (.int .i64 x.id) := by
      intro L
      induction L with
      | nil => intro i x h; simp at h
      | cons y t ih =>
        intro i x h
        cases i with
        | zero => simp at h; subst h; simp [fdC, fdR]
        | succ i =>
          have h2 := ih i x (by simpa using h)
          have e : ∀ j, (fdC (y :: t))[(i + 1) * 2 + j]? = (fdC t)[i * 2 + j]? := fun j => by
            show (fdR y ++ fdC t)[(i + 1) * 2 + j]? = _
            rw [List.getElem?_append_right (by simp [fdR]; omega)]
            congr 1
            simp [fdR]
            omega
          exact ⟨(e 0).trans h2.1, (e 1).trans h2.2⟩
    exact ⟨key 0 _ (by omega) (fd_at l i x hx).1, key 1 _ (by omega) (fd_at l i x hx).2⟩
set_option maxRecDepth 100000 in
set_option maxHeartbeats 4000000 in
theorem lives_any (w : World) : Calls Try.prog 6 #[] w fun e w' => e = .returned (.bool true) ∧ Below w.heap.size w w' := by
  obtain ⟨w1, hw1⟩ : ∃ w1, w.alloc (.cells #[.int .i64 0, .int .i64 1] 3) = w1 := ⟨_, rfl⟩
  obtain ⟨w2, hw2⟩ : ∃ w2, w1.alloc (.cells #[.int .i64 1, .int .i64 1, .int .i64 1, .int .i64 0, .int .i64 0, .int .i64 2, .int .i64 1, .int .i64 2, .int .i64 3, .int .i64 0] 39) = w2 := ⟨_, rfl⟩
  have hb1 : Below w.heap.size w w1 := by rw [← hw1]; exact (Below.refl _ _).alloc (Nat.le_refl _) _
  have hb2 : Below w1.heap.size w1 w2 := by rw [← hw2]; exact (Below.refl _ _).alloc (Nat.le_refl _) _
  have hk1 : Blk w1 w.heap.size 3 #[.int .i64 0, .int .i64 1] := by rw [← hw1]; exact Blk.new _ _ _
  have hk2 : Blk w2 w1.heap.size 39 #[.int .i64 1, .int .i64 1, .int .i64 1, .int .i64 0, .int .i64 0, .int .i64 2, .int .i64 1, .int .i64 2, .int .i64 3, .int .i64 0] := by rw [← hw2]; exact Blk.new _ _ _
  have hs1 : w1.heap.size = w.heap.size + 1 := by rw [← hw1]; simp
  have hk3 := hk1.below hb2 hk1.lt
  have hI : RowI w2.heap.size w2 (some ⟨w.heap.size, 0, none⟩) [0, 1] := fun _ => ⟨_, 0, rfl, hk3.lt, fun k hk => by
    rw [hk3.cell]
    have : k = 0 ∨ k = 1 := by simp at hk; omega
    rcases this with rfl | rfl <;> rfl⟩
  have hN : RowN w2.heap.size w2 (some ⟨w.heap.size + 1, 0, none⟩) [n1, n2] := fun _ => ⟨_, 0, rfl, by rw [← hs1]; exact hk2.lt, fun k hk => by
    rw [← hs1]
    simp only [hk2.cell]
    have : k = 0 ∨ k = 1 := by simp at hk; omega
    rcases this with rfl | rfl <;> exact ⟨rfl, rfl, rfl, rfl, rfl⟩⟩
  have hOI : OkI [0, 1] := fun k hk => by
    have : k = 0 ∨ k = 1 := by simp at hk; omega
    rcases this with rfl | rfl <;> simp [ia, In64]
  have hON : OkN [n1, n2] := fun k hk => by
    have : k = 0 ∨ k = 1 := by simp at hk; omega
    rcases this with rfl | rfl <;> exact ⟨by simp [na, n1, n2, In64], by simp [na, n1, n2, In64], by simp [na, n1, n2, In64], by simp [na, n1, n2, In64]⟩
  have HC := Lib.hid (e_Nodes [0, 1] [n1, n2] (some ⟨w.heap.size, 0, none⟩) 2 (some ⟨w.heap.size + 1, 0, none⟩) 2 w2 hI hN hOI hON (by simp) (by simp))
  have HB : Hid (Below w.heap.size w w2) := Lib.hid (hb1.trans (hb2.mono hb1.size))
  have hA := lives_all
  have q1 := eql_fd 31 (.inr rfl) 4 2 4 2
  have q2 := eql_fd 31 (.inr rfl) 1 2 1 2
  clear hb1 hb2 hk1 hk2 hk3 hs1 hI hN hOI hON
  subst hw1
  subst hw2
  go_enter Try.func6, Try.ntmps6
  go_wp2_with (go_at_call 7; refine HC.out.mono ?_; rintro e w3 ⟨v, rfl, ho, hb3⟩; obtain ⟨A3, c3, rfl, hc3⟩ := ho.cells; have HB3 := Lib.hid (HB.out.trans (hb3.mono HB.out.size)); simp only [List.length_cons, List.length_nil, hA] at hc3; obtain ⟨g3, rfl, -, y0, y1⟩ := hc3 0 _ rfl; obtain ⟨g4, e4, -, y2, y3⟩ := hc3 1 _ rfl; injection e4 with e4; injection e4 with e4; subst e4; clear hc3 ho hb3 HC)
  go_ret
  exact ⟨rfl, HB3.out⟩
end Go.Proofs.Ytmpcfplpdbdmmaa
