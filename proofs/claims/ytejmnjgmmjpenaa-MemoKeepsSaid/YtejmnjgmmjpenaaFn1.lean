/- Contracts of the key's slot and of New, Size, Count of layer 11 (memo), over the translation. -/
import Derived.Test.YtejmnjgmmjpenaaBase
namespace Go.Proofs.Ytejmnjgmmjpenaa
open Go.RowKit

def mulS (x e : Int) : Int := IntKind.u64.wrap (bits BinOp.xor IntKind.u64 x (IntKind.u64.wrap e) * 11400714819323198485)
/-- One round of the key's mixing. -/
def mixS (x e : Int) : Int := bits BinOp.xor IntKind.u64 (mulS x e) (mulS x e / 4294967296)
def mixAt (op a b c : Int) : Nat → Int
  | 0 => IntKind.u64.wrap op
  | 1 => mixS (IntKind.u64.wrap op) a
  | 2 => mixS (mixS (IntKind.u64.wrap op) a) b
  | _ => mixS (mixS (mixS (IntKind.u64.wrap op) a) b) c
theorem mixS_nonneg (x e : Int) : 0 ≤ mixS x e := (bounds_u64 (wf_bits (k := .u64) BinOp.xor _ _)).1
theorem mixAt_nonneg (op a b c : Int) : ∀ k, 0 ≤ mixAt op a b c k
  | 0 => (bounds_u64 (wf_wrap (k := .u64) op)).1
  | 1 => mixS_nonneg _ _
  | 2 => mixS_nonneg _ _
  | _ + 3 => mixS_nonneg _ _
/-- The slot of a key in a table of n slots. -/
def slotF (op a b c n : Int) : Int := mixAt op a b c 3 % n
theorem slotF_bd {op a b c n : Int} (h : 1 ≤ n) : 0 ≤ slotF op a b c n ∧ slotF op a b c n < n := ⟨Int.emod_nonneg _ (by omega), Int.emod_lt_of_pos _ (by omega)⟩

set_option maxHeartbeats 1000000 in
theorem key_slot (op a b c n : Int) (w : World) (hn : 1 ≤ n) (hn2 : n ≤ 65536) :
    Calls Try.prog 20 #[.agg #[.int .i64 op, .int .i64 a, .int .i64 b, .int .i64 c], .int .i64 n] w fun e w' => e = .returned (.int .i64 (slotF op a b c n)) ∧ w' = w.alloc (.cells #[.int .i64 op, .int .i64 a, .int .i64 b, .int .i64 c] 51) := by
  have x0 : ∀ w, (Instr.index 49 (Value.agg #[.int .i64 a, .int .i64 b, .int .i64 c]) (.int .i64 0)).run Try.prog w = .ok (.int .i64 a) w := fun w => by kernel_rfl
  have x1 : ∀ w, (Instr.index 49 (Value.agg #[.int .i64 a, .int .i64 b, .int .i64 c]) (.int .i64 1)).run Try.prog w = .ok (.int .i64 b) w := fun w => by kernel_rfl
  have x2 : ∀ w, (Instr.index 49 (Value.agg #[.int .i64 a, .int .i64 b, .int .i64 c]) (.int .i64 2)).run Try.prog w = .ok (.int .i64 c) w := fun w => by kernel_rfl
  have hnn := mixAt_nonneg op a b c
  have HN := Lib.hid hnn
  clear hnn
  go_enter Try.func20, Try.ntmps20
  go_wp2
  go_loop [5, 13] (fun m i => ∃ (k : Nat) (x : Int), k ≤ 3 ∧ i = .int .i64 k ∧ m = .int .u64 x ∧ Hid (x = mixAt op a b c k)) (fun _ i => 3 - (intOf i).toNat)
  case atStart => exact ⟨0, _, by omega, rfl, rfl, rfl⟩
  case round =>
    obtain ⟨k, x, hk, rfl, rfl, HX⟩ := hrel
    have hx0 : 0 ≤ x := by rw [HX.out]; exact HN.out k
    have hcase : k = 0 ∨ k = 1 ∨ k = 2 ∨ k = 3 := by omega
    rcases hcase with rfl | rfl | rfl | rfl
    · go_wp2
      go_round
      case rel => exact ⟨1, _, by omega, rfl, rfl, by rw [HX.out]; rfl⟩
      case measure => simp [intOf]
    · go_wp2
      go_round
      case rel => exact ⟨2, _, by omega, rfl, rfl, by rw [HX.out]; rfl⟩
      case measure => simp [intOf]
    · go_wp2
      go_round
      case rel => exact ⟨3, _, by omega, rfl, rfl, by rw [HX.out]; rfl⟩
      case measure => simp [intOf]
    · have hs : wrap64 (x % n) = slotF op a b c n := by
        have h2 := Int.emod_nonneg x (show n ≠ 0 by omega)
        have h3 := Int.emod_lt_of_pos x (show 0 < n by omega)
        have h4 : ∀ y : Int, 0 ≤ y → y ≤ 65536 → wrap64 y = y := fun y h1 h2 => by unfold wrap64; omega
        rw [h4 _ h2 (by omega), HX.out]; rfl
      have HS := Lib.hid hs
      clear hs
      go_wp2
      go_ret
      exact ⟨by rw [← HS.out]; rfl, rfl⟩

/-- A key and its result. -/
structure Rc where
  op : Int
  a : Int
  b : Int
  c : Int
  r : Int
  kept : Bool
def Rc.zero : Rc := ⟨0, 0, 0, 0, 0, false⟩
def Rc.cells (x : Rc) : List Value := [.int .i64 x.op, .int .i64 x.a, .int .i64 x.b, .int .i64 x.c, .int .i64 x.r, .bool x.kept]
theorem flat_at {g : Nat → List Value} (hg : ∀ i, (g i).length = 6) : ∀ (n r j : Nat), r < n → j < 6 → ((List.range n).flatMap g)[6 * r + j]? = (g r)[j]?
  | 0, r, j, h, _ => absurd h (by omega)
  | n + 1, r, j, h, hj => by
    have hlen : ∀ n, ((List.range n).flatMap g).length = 6 * n := fun n => by
      induction n with
      | zero => simp
      | succ n ih => rw [List.range_succ, List.flatMap_append, List.length_append, ih]; simp [hg]; omega
    rw [List.range_succ, List.flatMap_append, List.getElem?_append, hlen]
    by_cases e : r = n
    · subst e
      rw [if_neg (by omega)]
      simp
    · rw [if_pos (by omega)]
      exact flat_at hg n r j (by omega) hj
theorem flat_len {g : Nat → List Value} (hg : ∀ i, (g i).length = 6) (n : Nat) : ((List.range n).flatMap g).length = 6 * n := by
  induction n with
  | zero => simp
  | succ n ih => rw [List.range_succ, List.flatMap_append, List.length_append, ih]; simp [hg]; omega
/-- The cells of a page. -/
def pageRow (f : Nat → Rc) : Array Value := ((List.range 128).flatMap fun r => (f r).cells).toArray
theorem page_at (f : Nat → Rc) {r j : Nat} (hr : r < 128) (hj : j < 6) : (pageRow f)[6 * r + j]? = (f r).cells[j]? := by
  unfold pageRow
  rw [List.getElem?_toArray]
  exact flat_at (fun _ => rfl) 128 r j hr hj
theorem page_size (f : Nat → Rc) : (pageRow f).size = 768 := by
  unfold pageRow
  rw [List.size_toArray, flat_len (fun _ => rfl)]
def upd (f : Nat → Rc) (r : Nat) (x : Rc) : Nat → Rc := fun i => if i = r then x else f i
theorem page_upd (f : Nat → Rc) {r : Nat} (x : Rc) (hr : r < 128) :
    ((((((pageRow f).setIfInBounds (6 * r) (.int .i64 x.op)).setIfInBounds (6 * r + 1) (.int .i64 x.a)).setIfInBounds (6 * r + 2) (.int .i64 x.b)).setIfInBounds (6 * r + 3) (.int .i64 x.c)).setIfInBounds (6 * r + 4) (.int .i64 x.r)).setIfInBounds (6 * r + 5) (.bool x.kept) = pageRow (upd f r x) := by
  apply Array.ext_getElem?
  intro i
  by_cases hi : i < 768
  · have e : i = 6 * (i / 6) + i % 6 := by omega
    have h2 : i / 6 < 128 := by omega
    have h3 : i % 6 < 6 := by omega
    have e1 : (pageRow (upd f r x))[i]? = ((upd f r x) (i / 6)).cells[i % 6]? := by
      conv => lhs; rw [e]
      exact page_at _ h2 h3
    have e2 : (pageRow f)[i]? = (f (i / 6)).cells[i % 6]? := by
      conv => lhs; rw [e]
      exact page_at _ h2 h3
    rw [e1]
    simp only [Array.getElem?_setIfInBounds, Array.size_setIfInBounds, page_size, e2]
    unfold upd
    by_cases hr2 : i / 6 = r
    · rw [if_pos hr2]
      have h4 : i % 6 = 0 ∨ i % 6 = 1 ∨ i % 6 = 2 ∨ i % 6 = 3 ∨ i % 6 = 4 ∨ i % 6 = 5 := by omega
      rcases h4 with q | q | q | q | q | q
      · rw [if_neg (by omega), if_neg (by omega), if_neg (by omega), if_neg (by omega), if_neg (by omega), if_pos (by omega), if_pos (by omega), q]; rfl
      · rw [if_neg (by omega), if_neg (by omega), if_neg (by omega), if_neg (by omega), if_pos (by omega), if_pos (by omega), q]; rfl
      · rw [if_neg (by omega), if_neg (by omega), if_neg (by omega), if_pos (by omega), if_pos (by omega), q]; rfl
      · rw [if_neg (by omega), if_neg (by omega), if_pos (by omega), if_pos (by omega), q]; rfl
      · rw [if_neg (by omega), if_pos (by omega), if_pos (by omega), q]; rfl
      · rw [if_pos (by omega), if_pos (by omega), q]; rfl
    · rw [if_neg hr2, if_neg (by omega), if_neg (by omega), if_neg (by omega), if_neg (by omega), if_neg (by omega), if_neg (by omega)]
  · rw [Array.getElem?_eq_none (by simp only [Array.size_setIfInBounds, page_size]; omega), Array.getElem?_eq_none (by rw [page_size]; omega)]
end Go.Proofs.Ytejmnjgmmjpenaa
