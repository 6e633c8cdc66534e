/- Contracts of put, get and lives of the laws of layer 11 (memo), over the translation. -/
import Derived.Test.YtejmnjgmmjpenaaFn5
namespace Go.Proofs.Ytejmnjgmmjpenaa
open Go.RowKit

/-- An operation. -/
structure Act where
  kind : Int
  op : Int
  a : Int
  b : Int
  c : Int
  r : Int
def actRow (x : Act) : Array Value := #[.int .u8 x.kind, .int .i64 x.op, .int .i64 x.a, .int .i64 x.b, .int .i64 x.c, .int .i64 x.r]
def actV (x : Act) : Value := .agg (actRow x)
def slotA (x : Act) (n : Nat) : Nat := (slotF x.op x.a x.b x.c n).toNat
def recA (x : Act) : Rc := ⟨x.op, x.a, x.b, x.c, x.r, true⟩
def getA (T : Nat → Option Rc) (x : Act) (n : Nat) : Option Int := getR T x.op x.a x.b x.c n

theorem Memo.below {w w' : World} {S : Nat → Prop} {bm n : Nat} {asked found : Int} {T : Nat → Option Rc} (h : Memo w S bm n asked found T) (hb : Below w.heap.size w w') : Memo w' S bm n asked found T := by
  obtain ⟨gp, P, F, h1, h2⟩ := h
  exact ⟨gp, P, F, h1.below hb, h2⟩
theorem Memo.frm {w w' : World} {S S' : Nat → Prop} {bm n : Nat} {asked found : Int} {T : Nat → Option Rc} (h : Memo w S bm n asked found T) (hf : Frm S' w w') (hd : ∀ k, S k → ¬ S' k) : Memo w' S bm n asked found T := by
  obtain ⟨gp, P, F, h1, h2⟩ := h
  exact ⟨gp, P, F, h1.frm hf hd, h2⟩
theorem Memo.size {w : World} {S : Nat → Prop} {bm n : Nat} {asked found : Int} {T : Nat → Option Rc} (h : Memo w S bm n asked found T) : Calls Try.prog 14 #[.pointer (some ⟨bm, 0, none⟩)] w fun e w' => e = .returned (.int .i64 n) ∧ w = w' := by
  obtain ⟨gp, P, F, h1, h2⟩ := h
  exact memo_Size h1
theorem Memo.count {w : World} {S : Nat → Prop} {bm n : Nat} {asked found : Int} {T : Nat → Option Rc} (h : Memo w S bm n asked found T) : Calls Try.prog 13 #[.pointer (some ⟨bm, 0, none⟩)] w fun e w' => e = .returned (.tuple #[.int .i64 asked, .int .i64 found]) ∧ Below w.heap.size w w' := by
  obtain ⟨gp, P, F, h1, h2⟩ := h
  exact memo_Count h1

set_option maxHeartbeats 1000000 in
theorem law_put {w : World} {S : Nat → Prop} {bm n : Nat} {asked found : Int} {T : Nat → Option Rc} (h : Memo w S bm n asked found T) (x : Act) (hn : 1 ≤ n) (hn2 : n ≤ 65536) (hS : ∀ k, w.heap.size ≤ k → S k) :
    Calls Try.prog 9 #[.pointer (some ⟨bm, 0, none⟩), actV x] w fun e w' => e = .returned (.tuple #[]) ∧ Memo w' S bm n asked found (putT T (slotA x n) (recA x)) ∧ Frm S w w' := by
  obtain ⟨kind, op, a, b, c, r⟩ := x
  have hb : Below w.heap.size w (w.alloc (.cells #[.int .u8 kind, .int .i64 op, .int .i64 a, .int .i64 b, .int .i64 c, .int .i64 r] 27)) := (Below.refl _ _).alloc (Nat.le_refl _) _
  have HP := Lib.hid (memo_Put (h.below hb) op a b c r hn hn2 (fun k hk => hS k (by simp at hk; omega)))
  have HB := Lib.hid (Frm.of_below (S := S) hb)
  clear h hS hb
  unfold actV actRow
  go_enter Try.func9, Try.ntmps9
  go_wp2_with fail
  refine HP.out.mono ?_; rintro e w1 ⟨rfl, hM, hf⟩
  have HM := Lib.hid hM
  have HF := Lib.hid (HB.out.trans hf)
  clear HP hM hf
  go_wp2
  go_end0
  exact ⟨rfl, HM.out, HF.out⟩
set_option maxHeartbeats 1000000 in
theorem law_get {w : World} {S : Nat → Prop} {bm n : Nat} {asked found : Int} {T : Nat → Option Rc} (h : Memo w S bm n asked found T) (x : Act) (hn : 1 ≤ n) (hn2 : n ≤ 65536) (ha0 : 0 ≤ asked) (ha1 : asked ≤ 1000000) (hf0 : 0 ≤ found) (hf1 : found ≤ 1000000) :
    Calls Try.prog 11 #[.pointer (some ⟨bm, 0, none⟩), actV x] w fun e w' => e = .returned (ansV (getA T x n)) ∧ Memo w' S bm n (asked + 1) (found + hitN (getA T x n)) T ∧ Frm S w w' := by
  obtain ⟨kind, op, a, b, c, r⟩ := x
  have hb : Below w.heap.size w (w.alloc (.cells #[.int .u8 kind, .int .i64 op, .int .i64 a, .int .i64 b, .int .i64 c, .int .i64 r] 27)) := (Below.refl _ _).alloc (Nat.le_refl _) _
  have HP := Lib.hid (memo_Get (h.below hb) op a b c hn hn2 ha0 ha1 hf0 hf1)
  have HB := Lib.hid (Frm.of_below (S := S) hb)
  have e1 : getA T ⟨kind, op, a, b, c, r⟩ n = getR T op a b c n := rfl
  rw [e1]
  obtain ⟨R, hR⟩ : ∃ R, getR T op a b c n = R := ⟨_, rfl⟩
  rw [hR] at HP ⊢
  clear h hb hR e1
  unfold actV actRow
  go_enter Try.func11, Try.ntmps11
  go_wp2_with fail
  refine HP.out.mono ?_; rintro e w1 ⟨he, hM, hf⟩
  have he2 : e = .returned (.tuple #[.int .i64 (R.getD 0), .bool R.isSome]) := he
  clear he
  subst he2
  have HM := Lib.hid hM
  have HF := Lib.hid (HB.out.trans hf)
  obtain ⟨v, hv⟩ : ∃ v, R.getD 0 = v := ⟨_, rfl⟩
  obtain ⟨k, hk⟩ : ∃ k, R.isSome = k := ⟨_, rfl⟩
  rw [hv, hk]
  have HV := Lib.hid hv
  have HK := Lib.hid hk
  clear HP hM hf hv hk
  go_wp2
  go_ret2
  refine ⟨?_, HM.out, HF.out⟩
  show _ = Ending.returned (ansV R)
  unfold ansV
  rw [HV.out, HK.out]; rfl
theorem law_put_nil (x : Act) (w : World) : Calls Try.prog 9 #[.pointer none, actV x] w fun e w' => e = .returned (.tuple #[]) ∧ Below w.heap.size w w' := by
  obtain ⟨kind, op, a, b, c, r⟩ := x
  unfold actV actRow
  go_enter Try.func9, Try.ntmps9
  go_wp2_with fail
  refine (nil_Put _ _ _ _ _ _).mono ?_; rintro e w1 ⟨rfl, rfl⟩
  go_wp2
  go_end0
  exact ⟨rfl, (Below.refl _ _).alloc (Nat.le_refl _) _⟩
theorem law_get_nil (x : Act) (w : World) : Calls Try.prog 11 #[.pointer none, actV x] w fun e w' => e = .returned (.tuple #[.int .i64 0, .bool false]) ∧ Below w.heap.size w w' := by
  obtain ⟨kind, op, a, b, c, r⟩ := x
  unfold actV actRow
  go_enter Try.func11, Try.ntmps11
  go_wp2_with fail
  refine (nil_Get _ _ _ _ _).mono ?_; rintro e w1 ⟨rfl, rfl⟩
  go_wp2
  go_ret2
  exact ⟨rfl, (Below.refl _ _).alloc (Nat.le_refl _) _⟩

/-- What a record answers to a key. -/
def lookR (o : Option Rc) (op a b c : Int) : Option Int :=
  match o with
  | none => none
  | some x => if x.op = op ∧ x.a = a ∧ x.b = b ∧ x.c = c then some x.r else none
theorem getA_eq (T : Nat → Option Rc) (x : Act) (n : Nat) : getA T x n = lookR (T (slotA x n)) x.op x.a x.b x.c := rfl
theorem get_put (T : Nat → Option Rc) (x : Act) (n : Nat) : getA (putT T (slotA x n) (recA x)) x n = some x.r := by
  rw [getA_eq]
  generalize slotA x n = s
  unfold putT
  rw [if_pos rfl]
  unfold lookR recA
  simp
theorem get_put_other (T : Nat → Option Rc) (x y : Act) (n : Nat) (h : ¬ (x.op = y.op ∧ x.a = y.a ∧ x.b = y.b ∧ x.c = y.c)) (hT : getA T y n = none) : getA (putT T (slotA x n) (recA x)) y n = none := by
  rw [getA_eq] at hT ⊢
  generalize slotA x n = s
  generalize slotA y n = t at hT ⊢
  unfold putT
  by_cases e : t = s
  · rw [if_pos e]
    unfold lookR recA
    exact if_neg h
  · rw [if_neg e]; exact hT
theorem get_none (x : Act) (n : Nat) : getA (fun _ => none) x n = none := by rw [getA_eq]; rfl

end Go.Proofs.Ytejmnjgmmjpenaa
