/- Contracts of Key and Held of the reference of layer 11 (memo), over the translation. -/
import Derived.Test.YtejmnjgmmjpenaaOpen
namespace Go.Proofs.Ytejmnjgmmjpenaa
open Go.RowKit

theorem ref_Held (n : Int) (w : World) : Calls Try.prog 15 #[.int .i64 n] w fun e w' => e = .returned (.int .i64 (heldF n)) ∧ w = w' := by
  by_cases c1 : n < 1
  · have hh : heldF n = 1 := by unfold heldF; rw [if_pos c1]
    rw [hh]
    clear hh
    go_enter Try.func15, Try.ntmps15
    go_wp2
    go_ret
    exact ⟨rfl, rfl⟩
  · by_cases c2 : 65536 < n
    · have hh : heldF n = 65536 := by unfold heldF; rw [if_neg c1, if_pos c2]
      rw [hh]
      have c3 : 1 ≤ n := by omega
      clear hh c1
      go_enter Try.func15, Try.ntmps15
      go_wp2
      go_ret
      exact ⟨rfl, rfl⟩
    · have hh : (heldF n : Int) = n := by unfold heldF; rw [if_neg c1, if_neg c2]; omega
      rw [hh]
      have c3 : 1 ≤ n := by omega
      have c4 : n ≤ 65536 := by omega
      clear hh c1 c2
      go_enter Try.func15, Try.ntmps15
      go_wp2
      go_ret
      exact ⟨rfl, rfl⟩
/-- The two operations have the same key. -/
def keyP (x y : Act) : Prop := x.op = y.op ∧ x.a = y.a ∧ x.b = y.b ∧ x.c = y.c
instance (x y : Act) : Decidable (keyP x y) := by unfold keyP; infer_instance
set_option maxRecDepth 100000 in
set_option maxHeartbeats 2000000 in
theorem ref_Key (x y : Act) (w : World) : Calls Try.prog 19 #[actV x, actV y] w fun e w' => e = .returned (.bool (decide (keyP x y))) ∧ Below w.heap.size w w' := by
  have hb : Below w.heap.size w ((w.alloc (.cells (actRow x) 27)).alloc (.cells (actRow y) 27)) := ((Below.refl _ _).alloc (Nat.le_refl _) _).alloc (by simp) _
  have HB := Lib.hid hb
  clear hb
  obtain ⟨d, hd⟩ : ∃ d, decide (keyP x y) = d := ⟨_, rfl⟩
  rw [hd]
  unfold keyP at hd
  obtain ⟨k1, o1, a1, b1, c1, r1⟩ := x
  obtain ⟨k2, o2, a2, b2, c2, r2⟩ := y
  unfold actV actRow at *
  dsimp only at *
  by_cases e1 : o1 = o2
  · by_cases e2 : a1 = a2
    · by_cases e3 : b1 = b2
      · by_cases e4 : c1 = c2
        · have hd' : d = true := by rw [← hd]; simp [e1, e2, e3, e4]
          subst hd' e1 e2 e3 e4
          clear hd
          go_enter Try.func19, Try.ntmps19
          go_wp2
          go_ret
          exact ⟨rfl, HB.out⟩
        · have hd' : d = false := by rw [← hd]; simp [e4]
          subst hd' e1 e2 e3
          have e5 : (c1 == c2) = false := by simp [e4]
          have E5 := Lib.hid e5
          clear hd e5
          go_enter Try.func19, Try.ntmps19
          go_wp2
          go_ret
          exact ⟨congrArg (fun z => Ending.returned (Value.bool z)) E5.out, HB.out⟩
      · have hd' : d = false := by rw [← hd]; simp [e3]
        subst hd' e1 e2
        clear hd
        go_enter Try.func19, Try.ntmps19
        go_wp2
        go_ret
        exact ⟨rfl, HB.out⟩
    · have hd' : d = false := by rw [← hd]; simp [e2]
      subst hd' e1
      clear hd
      go_enter Try.func19, Try.ntmps19
      go_wp2
      go_ret
      exact ⟨rfl, HB.out⟩
  · have hd' : d = false := by rw [← hd]; simp [e1]
    subst hd'
    clear hd
    go_enter Try.func19, Try.ntmps19
    go_wp2
    go_ret
    exact ⟨rfl, HB.out⟩
end Go.Proofs.Ytejmnjgmmjpenaa
