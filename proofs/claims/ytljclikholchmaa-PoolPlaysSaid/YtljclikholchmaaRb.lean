/- The specification's pool in memory; its Has, Len, At, New; layer 9 (pool). -/
import Derived.Test.YtljclikholchmaaRa
namespace Go.Proofs.Ytljclikholchmaa
open Go.RowKit

def tkC (T : List Bool) : List Value := T.map Value.bool
def inC (F : List Int) : List Value := F.map (Value.int .i64)
def rpC (room : Int) (A : Option Addr) (c n : Nat) (D : Option Addr) (d m : Nat) (C : Option Addr) (e k : Nat) : Array Value := #[.int .i64 room, .slice A n c, .slice D m d, .slice C k e]
/-- The rows of the specification's pool. -/
structure RPool (w : World) (B : Nat) (A : Option Addr) (c : Nat) (M : List Nd) (D : Option Addr) (d : Nat) (T : List Bool) (C : Option Addr) (e : Nat) (F : List Int) : Prop where
  nodes : RowG w B A c (ndCells M)
  taken : RowG w B D d (tkC T)
  free : RowG w B C e (inC F)
  cap : F.length ≤ e
section
variable {w w' : World} {B B' : Nat} {A D C : Option Addr} {c d e : Nat} {M : List Nd} {T : List Bool} {F : List Int}
theorem RPool.step (h : RPool w w.heap.size A c M D d T C e F) (hb : Below w.heap.size w w') : RPool w' w'.heap.size A c M D d T C e F := ⟨h.nodes.step hb, h.taken.step hb, h.free.step hb, h.cap⟩
theorem tkC_len : (tkC T).length = T.length := by unfold tkC; simp
theorem inC_len : (inC F).length = F.length := by unfold inC; simp
theorem tkC_at {i : Nat} (h : i < T.length) : (tkC T)[i]? = some (.bool (T.getD i false)) := by unfold tkC; simp [List.getD, List.getElem?_eq_getElem h]
theorem inC_at {i : Nat} (h : i < F.length) : (inC F)[i]? = some (.int .i64 (F.getD i 0)) := by unfold inC; simp [List.getD, List.getElem?_eq_getElem h]
theorem nd_at {i : Nat} (h : i < M.length) : (ndCells M)[i * 5]? = some (.int .i64 (M.getD i nd0).id) ∧ (ndCells M)[i * 5 + 1]? = some (.int .i64 (M.getD i nd0).v) ∧ (ndCells M)[i * 5 + 2]? = some (.int .i64 (M.getD i nd0).lo) ∧ (ndCells M)[i * 5 + 3]? = some (.int .i64 (M.getD i nd0).hi) ∧ (ndCells M)[i * 5 + 4]? = some (.int .i64 (M.getD i nd0).refs) := by
  have e : M[i]? = some (M.getD i nd0) := by rw [List.getD, List.getElem?_eq_getElem h]; rfl
  exact ⟨ndCells_at M i 0 _ e (by omega), ndCells_at M i 1 _ e (by omega), ndCells_at M i 2 _ e (by omega), ndCells_at M i 3 _ e (by omega), ndCells_at M i 4 _ e (by omega)⟩
end
/-- What the walks have of the pool's box. -/
theorem rbox (w : World) (cs : Array Value) : ∀ wx, Below (w.heap.size + 1) (w.alloc (.cells cs 32)) wx → Blk wx w.heap.size 32 cs ∧ Below w.heap.size w wx := fun wx h =>
  ⟨(Blk.new w 32 cs).below h (by omega), ((Below.refl _ _).alloc (Nat.le_refl _) _ : Below w.heap.size w (w.alloc (.cells cs 32))).trans (h.mono (by omega))⟩
def hasT (T : List Bool) (id : Int) : Bool := decide (1 ≤ id) && (decide (id ≤ T.length) && T.getD (id - 1).toNat false)
section
variable {w w' : World} {A D C : Option Addr} {c d e : Nat} {M : List Nd} {T : List Bool} {F : List Int}
set_option maxHeartbeats 1000000 in
theorem r_Has (room id : Int) (h : RPool w w.heap.size A c M D d T C e F) (hl : T.length ≤ 1000000) : Calls Try.prog 26 #[.agg (rpC room A c M.length D d T.length C e F.length), .int .i64 id] w fun en w' => en = .returned (.bool (hasT T id)) ∧ Below w.heap.size w w' := by
  have hT := h.taken.step ((Below.refl _ _).alloc (Nat.le_refl _) (.cells (rpC room A c M.length D d T.length C e F.length) 32))
  have HB : Hid (∀ ob, Below w.heap.size w (w.alloc ob)) := Lib.hid (fun ob => (Below.refl _ _).alloc (Nat.le_refl _) ob)
  obtain ⟨q, hq⟩ : ∃ q, hasT T id = q := ⟨_, rfl⟩
  rw [hq]
  unfold hasT at hq
  unfold rpC at hT ⊢
  clear h
  by_cases c1 : 1 ≤ id
  · by_cases c2 : id ≤ T.length
    · obtain ⟨i, rfl⟩ : ∃ i : Nat, id = (i : Int) + 1 := ⟨(id - 1).toNat, by omega⟩
      have hi : i < T.length := by omega
      obtain ⟨b, off, rfl, hb, hc⟩ := hT.out (by rw [tkC_len]; omega)
      have z0 := hc i _ (tkC_at hi)
      have hd2 : T.getD i false = q := by
        rw [← hq]
        have e3 : ((i : Int) + 1 - 1).toNat = i := by omega
        have t1 : decide (1 ≤ (i : Int) + 1) = true := decide_eq_true (by omega)
        have t2 : decide ((i : Int) + 1 ≤ (T.length : Int)) = true := decide_eq_true (by omega)
        rw [t1, t2, e3]
        rfl
      rw [hd2] at z0
      have h0 : (0 : Int) ≤ (i : Int) := by omega
      have h1 : (i : Int) < (T.length : Int) := by omega
      have g0 : wrap64 (i : Int) = (i : Int) := by unfold wrap64; omega
      have t2 : decide ((i : Int) + 1 ≤ (T.length : Int)) = true := decide_eq_true (by omega)
      have t1 : decide (1 ≤ (i : Int) + 1) = true := decide_eq_true (by omega)
      clear hT hc hq hd2
      go_enter Try.func26, Try.ntmps26
      go_wp2
      go_ret
      exact ⟨rfl, HB.out _⟩
    · have hd' : q = false := by rw [← hq]; simp [c2]
      subst hd'
      have c3 : (T.length : Int) < id := by omega
      clear hT hq c2
      go_enter Try.func26, Try.ntmps26
      go_wp2
      go_ret
      exact ⟨rfl, HB.out _⟩
  · have hd' : q = false := by rw [← hq]; simp [c1]
    subst hd'
    have c3 : id < 1 := by omega
    clear hT hq c1
    go_enter Try.func26, Try.ntmps26
    go_wp2
    go_ret
    exact ⟨rfl, HB.out _⟩
/-- How many of the first k are taken. -/
def cntK (T : List Bool) : Nat → Nat
  | 0 => 0
  | k + 1 => cntK T k + if T.getD k false then 1 else 0
def cntT (T : List Bool) : Nat := cntK T T.length
theorem cntK_le (T : List Bool) : ∀ k, cntK T k ≤ k
  | 0 => Nat.le_refl _
  | k + 1 => by
    have := cntK_le T k
    show cntK T k + (if T.getD k false then 1 else 0) ≤ k + 1
    split <;> omega
set_option maxHeartbeats 2000000 in
theorem r_Len (room : Int) (h : RPool w w.heap.size A c M D d T C e F) (hl : T.length ≤ 1000000) : Calls Try.prog 14 #[.agg (rpC room A c M.length D d T.length C e F.length)] w fun en w' => en = .returned (.int .i64 (cntT T : Nat)) ∧ Below w.heap.size w w' := by
  obtain ⟨W, hW⟩ : ∃ W, w.alloc (.cells (rpC room A c M.length D d T.length C e F.length) 32) = W := ⟨_, rfl⟩
  have hb : Below w.heap.size w W := by rw [← hW]; exact (Below.refl _ _).alloc (Nat.le_refl _) _
  have HT := Lib.hid (h.taken.step hb)
  have HB := Lib.hid hb
  have hk : Blk W w.heap.size 32 (rpC room A c M.length D d T.length C e F.length) := by rw [← hW]; exact Blk.new _ _ _
  have q2 : W.cell? ⟨w.heap.size, 2, none⟩ = some (.slice D T.length d) := hk.cell 2
  have ql := hk.lt
  have HWW := Lib.hid hW
  unfold rpC at HWW ⊢
  clear h hb hk hW
  go_enter Try.func14, Try.ntmps14
  go_upto_region 1 with (go_at_call 999)
  rw [HWW.out]
  go_wp2_with fail
  go_loopw [3, 4] (fun s3 i wr => ∃ k : Nat, k ≤ T.length ∧ i = .int .i64 (k : Int) ∧ s3 = .int .i64 ((cntK T k : Nat) : Int) ∧ W = wr) (fun _ i _ => T.length - (intOf i).toNat)
  case atStart => exact ⟨0, Nat.zero_le _, rfl, rfl, by first | rfl | trivial⟩
  case round =>
    obtain ⟨k, hk, rfl, rfl, rfl⟩ := hrel
    by_cases hlt : k < T.length
    · have l1 : (k : Int) < (T.length : Int) := by omega
      have l0 : (0 : Int) ≤ (k : Int) := by omega
      obtain ⟨b, off, rfl, hb, hc⟩ := HT.out.out (by rw [tkC_len]; omega)
      have z0 := hc k _ (tkC_at hlt)
      have hle := cntK_le T k
      have hs : cntK T (k + 1) = cntK T k + if T.getD k false then 1 else 0 := rfl
      clear hc
      obtain ⟨q, hq⟩ : ∃ q, T.getD k false = q := ⟨_, rfl⟩
      rw [hq] at z0 hs
      have HS := Lib.hid hs
      clear hs hq
      generalize hX : cntK T k = X at *
      cases q
      · go_wp2
        go_roundw
        case rel => exact ⟨k + 1, by omega, by go_num, by rw [HS.out]; simp, by first | rfl | trivial⟩
        case measure => simp [intOf]; try omega
      · go_wp2
        go_roundw
        case rel => exact ⟨k + 1, by omega, by go_num, by rw [HS.out]; simp; try go_num, by first | rfl | trivial⟩
        case measure => simp [intOf]; try omega
    · have l1 : ¬ (k : Int) < (T.length : Int) := by omega
      obtain rfl : k = T.length := by omega
      go_wp2
      go_ret
      exact ⟨rfl, HB.out⟩
end
end Go.Proofs.Ytljclikholchmaa
