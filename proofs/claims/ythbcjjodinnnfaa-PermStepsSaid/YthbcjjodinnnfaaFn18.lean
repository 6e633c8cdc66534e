/- Contracts of Steps (errors) and Unlike of the specification of layer 5 (perm), over the translation. -/
import Derived.Test.YthbcjjodinnnfaaFn17
namespace Go.Proofs.Ythbcjjodinnnfaa
open Go.RowKit

set_option maxHeartbeats 1000000 in
theorem ref_Steps_no (A C : Option Addr) (ca cb : Nat) (a b : List Int) (w : World) (ha : RI w w.heap.size A a) (hb : RI w w.heap.size C b) (la : a.length ≤ 1000) (lb' : b.length ≤ 1000) (h : rightB a = false ∨ rightB b = false) :
    Calls Try.prog 22 #[.slice A a.length ca, .slice C b.length cb] w fun r w' => r = .returned (.tuple #[.slice none 0 0, .int .i64 1]) ∧ Below w.heap.size w w' := by
  have HA := Lib.hid ha
  have HB := Lib.hid hb
  clear ha hb
  cases ra : rightB a
  · clear h
    go_enter Try.func22, Try.ntmps22
    go_wp2_with fail
    refine (ref_Right _ _ _ _ HA.out (by omega)).mono ?_
    rintro e w1 ⟨rfl, hb1⟩; rw [ra]
    go_wp2
    go_ret2
    exact ⟨rfl, hb1⟩
  · have rb : rightB b = false := by simpa [ra] using h
    clear h
    go_enter Try.func22, Try.ntmps22
    go_wp2_with fail
    refine (ref_Right _ _ _ _ HA.out (by omega)).mono ?_
    rintro e w1 ⟨rfl, hb1⟩; rw [ra]
    have HB1 := Lib.hid (HB.out.step hb1)
    go_wp2_with fail
    refine (ref_Right _ _ _ _ HB1.out (by omega)).mono ?_
    rintro e w2 ⟨rfl, hb2⟩; rw [rb]
    have hb12 := hb1.trans (hb2.mono hb1.size)
    go_wp2
    go_ret2
    exact ⟨rfl, hb12⟩

set_option maxHeartbeats 1000000 in
theorem ref_Steps_len (A C : Option Addr) (ca cb : Nat) (a b : List Int) (w : World) (ha : RI w w.heap.size A a) (hb : RI w w.heap.size C b) (la : a.length ≤ 1000) (lb' : b.length ≤ 1000) (ra : rightB a = true) (rb : rightB b = true) (hab : a.length ≠ b.length) :
    Calls Try.prog 22 #[.slice A a.length ca, .slice C b.length cb] w fun r w' => r = .returned (.tuple #[.slice none 0 0, .int .i64 3]) ∧ Below w.heap.size w w' := by
  have HA := Lib.hid ha
  have HB := Lib.hid hb
  have hne : ((a.length : Int) != (b.length : Int)) = true := by simp; omega
  clear ha hb hab
  go_enter Try.func22, Try.ntmps22
  go_wp2_with fail
  refine (ref_Right _ _ _ _ HA.out (by omega)).mono ?_
  rintro e w1 ⟨rfl, hb1⟩; rw [ra]
  have HB1 := Lib.hid (HB.out.step hb1)
  go_wp2_with fail
  refine (ref_Right _ _ _ _ HB1.out (by omega)).mono ?_
  rintro e w2 ⟨rfl, hb2⟩; rw [rb]
  have hb12 := hb1.trans (hb2.mono hb1.size)
  go_wp2
  go_ret2
  exact ⟨rfl, hb12⟩

theorem quiet_left {P : Program} {f : FuncId} {args : Array Value} {w : World} {n : Nat} {v : Value}
    (h : Calls P f args (w.drewN n) fun e w' => e = .returned v ∧ w.drewN n = w') : Calls P f args (w.drewN n) fun e w'' => e = .returned v ∧ ∃ m, w'' = w.drewN m :=
  h.mono fun _ _ ⟨he, hm⟩ => ⟨he, n, hm.symm⟩
theorem inv_le (f : Int → Int) (N : Nat) : ∀ l : List Int, l.length ≤ N → inv f l ≤ l.length * N
  | [], _ => by simp [inv]
  | x :: t, h => by
    have h' : t.length + 1 ≤ N := h
    have ih := inv_le f N t (by omega)
    have := List.countP_le_length (p := fun y => decide (f y < f x)) (l := t)
    show t.countP _ + inv f t ≤ (t.length + 1) * N
    rw [Nat.succ_mul]
    omega
theorem drop_li {l : List Int} {k : Nat} (h : k < l.length) : l.drop k = li l k :: l.drop (k + 1) := by rw [List.drop_eq_getElem_cons h, li_get h]
def URel (f : Int → Int) (a : List Int) (T i n : Nat) : Prop := n + inv f (a.drop i) = T
def VRel (f : Int → Int) (a : List Int) (T i k n : Nat) : Prop := n + (a.drop k).countP (fun y => decide (f y < f (li a i))) + inv f (a.drop (i + 1)) = T
theorem URel.go {f : Int → Int} {a : List Int} {T i n : Nat} (h : URel f a T i n) (hi : i < a.length) : VRel f a T i (i + 1) n := by
  unfold URel at h
  rw [drop_li hi] at h
  show n + _ + _ = T
  have e : inv f (li a i :: a.drop (i + 1)) = (a.drop (i + 1)).countP (fun y => decide (f y < f (li a i))) + inv f (a.drop (i + 1)) := rfl
  omega
theorem VRel.yes {f : Int → Int} {a : List Int} {T i k n : Nat} (h : VRel f a T i k n) (hk : k < a.length) (hd : f (li a k) < f (li a i)) : VRel f a T i (k + 1) (n + 1) := by
  unfold VRel at h ⊢
  rw [drop_li hk, List.countP_cons, if_pos (by simpa using hd)] at h
  omega
theorem VRel.no {f : Int → Int} {a : List Int} {T i k n : Nat} (h : VRel f a T i k n) (hk : k < a.length) (hd : ¬ f (li a k) < f (li a i)) : VRel f a T i (k + 1) n := by
  unfold VRel at h ⊢
  rw [drop_li hk, List.countP_cons, if_neg (by simpa using hd)] at h
  omega
theorem VRel.back {f : Int → Int} {a : List Int} {T i n : Nat} (h : VRel f a T i a.length n) : URel f a T (i + 1) n := by
  unfold VRel at h
  unfold URel
  rw [List.drop_length] at h
  simpa using h
theorem URel.done {f : Int → Int} {a : List Int} {T n : Nat} (h : URel f a T a.length n) : n = T := by
  unfold URel at h
  rw [List.drop_length] at h
  simpa [inv] using h

set_option maxHeartbeats 1000000 in
theorem ref_Unlike (A C : Option Addr) (ca cb : Nat) (a b : List Int) (w : World) (ha : RI w w.heap.size A a) (hb : RI w w.heap.size C b) (la : a.length ≤ 1000) (lb' : b.length ≤ 1000) :
    Calls Try.prog 23 #[.slice A a.length ca, .slice C b.length cb] w fun r w' => r = .returned (.int .i64 (inv (placeL b) a : Nat)) ∧ Below w.heap.size w w' := by
  have HA := Lib.hid ha
  have HB := Lib.hid hb
  have hT := inv_le (placeL b) 1000 a la
  have hT2 : inv (placeL b) a ≤ 1000000 := by have := Nat.mul_le_mul_right 1000 la; omega
  obtain ⟨T, hTT⟩ : ∃ T, inv (placeL b) a = T := ⟨_, rfl⟩
  rw [hTT] at hT2 ⊢
  have HU : Hid (URel (placeL b) a T 0 0) := by show 0 + inv _ (a.drop 0) = T; simpa using hTT
  clear ha hb hT hTT
  go_enter Try.func23, Try.ntmps23
  go_wp2
  go_loopw [5, 6] (fun s i wr => ∃ n k : Nat, k ≤ a.length ∧ s = .int .i64 n ∧ i = .int .i64 k ∧ Hid (URel (placeL b) a T k n) ∧ Below w.heap.size w wr) (fun _ i _ => a.length - (intOf i).toNat)
  case atStart => exact ⟨0, 0, Nat.zero_le _, rfl, rfl, HU, Below.refl _ _⟩
  case round =>
    obtain ⟨n, k, hk, rfl, rfl, HR, hbw⟩ := hrel
    by_cases hlt : k < a.length
    · have h1' : (k : Int) < (a.length : Int) := by omega
      have HV := Lib.hid (HR.out.go hlt)
      go_wp2
      go_loopw [5, 7] (fun s i wx => ∃ n q : Nat, q ≤ a.length ∧ k + 1 ≤ q ∧ s = .int .i64 n ∧ i = .int .i64 q ∧ Hid (VRel (placeL b) a T k q n) ∧ Below w.heap.size w wx) (fun _ i _ => a.length - (intOf i).toNat)
      case atStart => exact ⟨n, k + 1, by omega, by omega, rfl, by go_num, HV, hbw⟩
      case round =>
        obtain ⟨n2, q, hq, hkq, rfl, rfl, HW, hbw2⟩ := hrel
        by_cases hqt : q < a.length
        · have h2' : (q : Int) < (a.length : Int) := by omega
          obtain ⟨g1, o1, rfl, hg1, hc1⟩ := HA.out (by omega)
          have e1 := (hbw2.cell (p := ⟨g1, o1 + k, none⟩) hg1).trans (hc1 k hlt)
          have e2 := (hbw2.cell (p := ⟨g1, o1 + q, none⟩) hg1).trans (hc1 q hqt)
          have HBr := Lib.hid (HB.out.step hbw2)
          have hPk : ∀ n, Calls Try.prog 24 #[.slice C b.length cb, .int .i64 (li a k)] (wr.drewN n) fun e w'' => e = .returned (.int .i64 (placeL b (li a k))) ∧ wr.drewN n = w'' := fun n => ref_Place C cb b (li a k) (wr.drewN n) HBr.out (by omega)
          have hPq : ∀ n, Calls Try.prog 24 #[.slice C b.length cb, .int .i64 (li a q)] (wr.drewN n) fun e w'' => e = .returned (.int .i64 (placeL b (li a q))) ∧ wr.drewN n = w'' := fun n => ref_Place C cb b (li a q) (wr.drewN n) HBr.out (by omega)
          have HPk := Lib.hid hPk
          have HPq := Lib.hid hPq
          have hn2 : n2 ≤ 1000000 := by have := HW.out; unfold VRel at this; omega
          clear hc1 hPk hPq
          by_cases hd : placeL b (li a q) < placeL b (li a k)
          · have HN := Lib.hid (HW.out.yes hqt hd)
            go_wp2
            go_quiet ((go_at_call 24; first | (with_reducible exact quiet_left (HPk.out _)) | (with_reducible exact quiet_left (HPq.out _))))
            go_wp2
            go_roundw
            case rel => exact ⟨n2 + 1, q + 1, by omega, by omega, by go_num, by go_num, HN, below_drewN hbw2 _⟩
            case measure => simp [intOf]; omega
          · have HN := Lib.hid (HW.out.no hqt hd)
            have hd' : placeL b (li a k) ≤ placeL b (li a q) := by omega
            go_wp2
            go_quiet ((go_at_call 24; first | (with_reducible exact quiet_left (HPk.out _)) | (with_reducible exact quiet_left (HPq.out _))))
            go_wp2
            go_roundw
            case rel => exact ⟨n2, q + 1, by omega, by omega, rfl, by go_num, HN, below_drewN hbw2 _⟩
            case measure => simp [intOf]; omega
        · obtain rfl : q = a.length := by omega
          have HN := Lib.hid HW.out.back
          go_wp2
          go_roundw
          case rel => exact ⟨n2, k + 1, by omega, rfl, by go_num, HN, hbw2⟩
          case measure => simp [intOf]; omega
    · obtain rfl : k = a.length := by omega
      have HD : Hid (n = T) := HR.out.done
      go_wp2
      go_ret
      exact ⟨by rw [HD.out]; rfl, hbw⟩
end Go.Proofs.Ythbcjjodinnnfaa
