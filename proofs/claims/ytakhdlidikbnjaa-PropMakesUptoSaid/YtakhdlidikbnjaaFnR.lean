/- truths and lives of the laws of layer 6 (prop). -/
import Derived.Test.YtakhdlidikbnjaaBls
import Derived.Test.YtakhdlidikbnjaaFnO
import Derived.Test.YtakhdlidikbnjaaFnL
import Derived.Test.YtakhdlidikbnjaaFnM
import Derived.Test.YtakhdlidikbnjaaFnN
import Derived.Test.YtakhdlidikbnjaaFnQ
namespace Go.Proofs.Ytakhdlidikbnjaa
open Go.RowKit
theorem lb_ext {a b : List Bool} (h : a.length = b.length) (hv : ∀ i, i < a.length → lb a i = lb b i) : a = b := by
  apply List.ext_getElem h
  intro i h1 h2
  have := hv i h1
  simpa [lb, List.getD, List.getElem?_eq_getElem h1, List.getElem?_eq_getElem h2] using this
set_option maxHeartbeats 1000000 in
theorem law_truths (A C : Option Addr) (ca cb : Nat) (a b : List Bool) (w : World) (ha : RB w w.heap.size A a) (hb : RB w w.heap.size C b) (la : a.length ≤ 1000000000000) (_lb' : b.length ≤ 1000000000000) :
    Calls Try.prog 25 #[.slice A a.length ca, .slice C b.length cb] w fun r w' => r = .returned (.bool (decide (a = b))) ∧ Below w.heap.size w w' := by
  have HA := Lib.hid ha
  have HB := Lib.hid hb
  clear ha hb
  by_cases h : a.length = b.length
  · have hne : ((a.length : Int) != (b.length : Int)) = false := by simp [h]
    have hle : b.length ≤ a.length := by omega
    have hle2 : a.length ≤ b.length := by omega
    clear h
    go_enter Try.func25, Try.ntmps25
    go_wp2
    go_loopw [5] (fun i wr => ∃ k n : Nat, k ≤ a.length ∧ (∀ j, j < k → lb a j = lb b j) ∧ i = .int .i64 k ∧ wr = w.drewN n) (fun i _ => a.length - (intOf i).toNat)
    case atStart => exact ⟨0, 0, Nat.zero_le _, fun j hj => absurd hj (by omega), rfl, rfl⟩
    case round =>
      obtain ⟨k, n, hka, hv, rfl, rfl⟩ := hrel
      have HV := Lib.hid hv
      clear hv
      by_cases h1 : k < a.length
      · have h2 : k < b.length := by omega
        obtain ⟨g1, o1, rfl, hg1, hc1⟩ := HA.out (by omega)
        obtain ⟨g2, o2, rfl, hg2, hc2⟩ := HB.out (by omega)
        have e1 : w.cell? ⟨g1, o1 + k, none⟩ = some (.bool (lb a k)) := hc1 k h1
        have e2 : w.cell? ⟨g2, o2 + k, none⟩ = some (.bool (lb b k)) := hc2 k h2
        have h1' : (k : Int) < (a.length : Int) := by omega
        have h2' : (k : Int) < (b.length : Int) := by omega
        have h0' : (0 : Int) ≤ (k : Int) := by omega
        clear hc1 hc2
        by_cases hd : lb a k = lb b k
        · have HN : Hid (∀ j, j < k + 1 → lb a j = lb b j) := fun j hj => by
            by_cases e : j = k
            · rw [e]; exact hd
            · exact HV.out j (by omega)
          have hd' : (lb a k == lb b k) = true := by simp [hd]
          
          clear hd
          go_wp2
          go_quiet (fail)
          go_wp2
          go_roundw
          case rel => exact ⟨k + 1, _, by omega, HN.out, by go_num, rfl⟩
          case measure => simp [intOf]; omega
        · have HN : Hid (decide (a = b) = false) := by
            show _ = _
            simp; intro e; exact hd (by rw [e])
          have hd' : (lb a k == lb b k) = false := by simp [hd]
          
          clear hd
          go_wp2
          go_quiet (fail)
          go_wp2
          go_ret
          exact ⟨by rw [HN.out]; rfl, by simp only [World.drewN_drewN]; exact below_drewN (Below.refl _ _) _⟩
      · have HN : Hid (decide (a = b) = true) := by
          show _ = _
          simp; exact lb_ext (by omega) (fun i hi => HV.out i (by omega))
        go_wp2
        go_ret
        exact ⟨by rw [HN.out]; rfl, below_drewN (Below.refl _ _) _⟩
  · have hne : ((a.length : Int) != (b.length : Int)) = true := by simp; omega
    have HN : Hid (decide (a = b) = false) := by
      show _ = _
      simp; intro e; exact h (by rw [e])
    clear h
    go_enter Try.func25, Try.ntmps25
    go_wp2
    go_ret
    exact ⟨by rw [HN.out]; rfl, Below.refl _ _⟩


/-! ### lives -/
def tE : Ex := .mk 5 0 [.mk 3 0 [], .mk 3 1 []]
def tX : Ex := .mk 7 0 []
def tN : Ex := .mk 5 0 []
def tV : Ex := .mk 4 0 [.mk 3 64 []]
theorem ev1 : evalS tE [true, false] = false := by kernel_rfl
theorem ck1 : chkE tE = 0 := by kernel_rfl
theorem tb1 : tabR tE 4 = boolRow [false, false, false, true] := by kernel_rfl
theorem ev2 : evalS tX [] = false := by kernel_rfl
theorem ev3 : evalS tN [] = true := by kernel_rfl
theorem ck4 : chkE tV = 9 := by kernel_rfl
def RepQ (w : World) (A : Option Addr) (t : Ex) : Prop := Rep w.heap.size w A t
def AndP (w : World) (t : Ex) (n : Nat) (o : Int) (e : Ending) (w' : World) : Prop := ∃ A c, e = .returned (.agg #[.int .i64 o, .int .i64 0, .slice A n c]) ∧ RepQ w' A t ∧ Below w.heap.size w w'
theorem lv_And (g : Nat) (w : World) (h : Blk w g 24 #[.int .i64 3, .int .i64 0, .slice none 0 0, .int .i64 3, .int .i64 1, .slice none 0 0]) : Calls Try.prog 17 #[.slice (some ⟨g, 0, none⟩) 2 2] w (AndP w tE 2 5) := by
  have hR : RepS (fun x => x = g) w (some ⟨g, 0, none⟩) tE := by
    refine .mk _ _ (fun _ => none) (fun _ => 0) (fun _ => ⟨g, 0, rfl, rfl, fun i hi => ?_⟩) (fun i hi => ?_)
    · have hi2 : i < 2 := hi
      rcases (show i = 0 ∨ i = 1 by omega) with rfl | rfl
      · exact ⟨h.cell 0, h.cell 1, h.cell 2⟩
      · exact ⟨h.cell 3, h.cell 4, h.cell 5⟩
    · have hi2 : i < 2 := hi
      refine .mk _ _ (fun _ => none) (fun _ => 0) (fun hp => ?_) (fun j hj => ?_)
      · rcases (show i = 0 ∨ i = 1 by omega) with rfl | rfl <;> exact absurd hp (by decide)
      · rcases (show i = 0 ∨ i = 1 by omega) with rfl | rfl <;> exact absurd hj (by simp [kd, tE, Ex.ks])
  refine (pr_And (fun x => x = g) tE rfl rfl (some ⟨g, 0, none⟩) 2 w (by decide) hR (fun x hx => by rw [hx]; exact h.lt)).mono ?_
  rintro e w' ⟨A, c, rfl, hr, hb⟩
  exact ⟨A, c, rfl, hr.toR (fun b hb => hb.2), hb⟩
theorem lv_And0 (w : World) : Calls Try.prog 17 #[.slice none 0 0] w (AndP w tN 0 5) := by
  refine (pr_And (fun x => x < w.heap.size) tN rfl rfl none 0 w (by decide) (Rep.leaf (B := w.heap.size) rfl).toS (fun x hx => hx)).mono ?_
  rintro e w' ⟨A, c, rfl, hr, hb⟩
  exact ⟨A, c, rfl, hr.toR (fun b hb => hb.2), hb⟩
theorem lv_Not (w : World) : Calls Try.prog 20 #[.agg #[.int .i64 3, .int .i64 64, .slice none 0 0]] w (AndP w tV 1 4) := by
  refine (pr_Not (fun x => x < w.heap.size) (.mk 3 64 []) none 0 w (by decide) (Rep.leaf (B := w.heap.size) rfl).toS (fun x hx => hx)).mono ?_
  rintro e w' ⟨A, c, rfl, hr, hb⟩
  exact ⟨A, c, rfl, hr.toR (fun b hb => hb.2), hb⟩
theorem lv_E1 (A : Option Addr) (c g : Nat) (w : World) (hR : RepQ w A tE) (hg : Blk w g 4 #[.bool true, .bool false]) : Calls Try.prog 23 #[.agg #[.int .i64 5, .int .i64 0, .slice A 2 c], .slice (some ⟨g, 0, none⟩) 2 2] w (ValP w false) := by
  have h := pr_Eval tE A c (some ⟨g, 0, none⟩) 2 [true, false] w (by decide) (by decide) hR (RB.blk (l := [true, false]) hg hg.lt)
  rw [ev1] at h
  exact h
theorem lv_T (A : Option Addr) (c : Nat) (w : World) (hR : RepQ w A tE) : Calls Try.prog 26 #[.agg #[.int .i64 5, .int .i64 0, .slice A 2 c], .int .i64 2] w fun e w' => ∃ g, e = .returned (.slice (some ⟨g, 0, none⟩) 4 4) ∧ Blk w' g 4 (boolRow [false, false, false, true]) ∧ Below w.heap.size w w' := by
  have h := pr_Table2 tE A c w (by decide) hR ck1
  rw [tb1] at h
  exact h.mono fun e w' ⟨g, h1, h2, _, h4⟩ => ⟨g, h1, h2, h4⟩
theorem lv_tr (g1 g2 : Nat) (w : World) (h1 : Blk w g1 4 (boolRow [false, false, false, true])) (h2 : Blk w g2 4 #[.bool false, .bool false, .bool false, .bool true]) : Calls Try.prog 25 #[.slice (some ⟨g1, 0, none⟩) 4 4, .slice (some ⟨g2, 0, none⟩) 4 4] w (ValP w true) := by
  have h := law_truths (some ⟨g1, 0, none⟩) (some ⟨g2, 0, none⟩) 4 4 [false, false, false, true] [false, false, false, true] w (RB.blk h1 h1.lt) (RB.blk (l := [false, false, false, true]) h2 h2.lt) (by decide) (by decide)
  exact h
theorem lv_E2 (w : World) : Calls Try.prog 23 #[.agg #[.int .i64 7, .int .i64 0, .slice none 0 0], .slice none 0 0] w (ValP w false) := by
  have h := pr_Eval tX none 0 none 0 [] w (by decide) (by decide) (Rep.leaf rfl) (fun h => absurd h (by decide))
  rw [ev2] at h
  exact h
theorem lv_E3 (A : Option Addr) (c : Nat) (w : World) (hR : RepQ w A tN) : Calls Try.prog 23 #[.agg #[.int .i64 5, .int .i64 0, .slice A 0 c], .slice none 0 0] w (ValP w true) := by
  have h := pr_Eval tN A c none 0 [] w (by decide) (by decide) hR (fun h => absurd h (by decide))
  rw [ev3] at h
  exact h
theorem lv_C4 (A : Option Addr) (c : Nat) (w : World) (hR : RepQ w A tV) : Calls Try.prog 11 #[.agg #[.int .i64 4, .int .i64 0, .slice A 1 c]] w fun e w' => e = .returned (.int .i64 9) ∧ Below w.heap.size w w' := by
  have h := pr_Check tV A c w (by decide) hR
  rw [ck4] at h
  exact h
end Go.Proofs.Ytakhdlidikbnjaa
