/- The walk of LexiAll of layer 29 (lexi), over the translation. -/
import Derived.Test.YtnmofkngengoeaaDoorFnc
namespace Go.Proofs.YtnmofkngengoeaaDoor
open Go.RowKit Go.PlainAid

def lsR : Ra → List Tk
  | .ok l => l
  | .er _ _ => []
def atR : Ra → Int
  | .ok _ => 0
  | .er a _ => (a : Int)
def cdR : Ra → Int
  | .ok _ => 0
  | .er _ c => c
theorem all_any {t : TypeId} {s : ByteArray} {w w' : World} {e : Ending} (h : AllR t s w e w') : ∃ A c, e = .returned (.tuple #[.slice A (lsR (allS s)).length c, .int .i64 (atR (allS s)), .int .i64 (cdR (allS s))]) ∧ RT w' A (lsR (allS s)) ∧ Below w.heap.size w w' ∧ (lsR (allS s)).length ≤ s.size := by
  cases hs : allS s with
  | ok l =>
    obtain ⟨A, c, rfl, hR, hb, hl⟩ := all_ok h hs
    exact ⟨A, c, rfl, hR, hb, hl⟩
  | er a c =>
    obtain ⟨rfl, hb⟩ := all_er h hs
    exact ⟨none, 0, rfl, fun h => absurd h (by simp [lsR]), hb, by simp [lsR]⟩
set_option maxHeartbeats 4000000 in
theorem lexiAll_walk (s : ByteArray) (w : World) (hG : Glob w) : Calls Tryd.prog 4 #[.string s] w fun e w' => e = .returned (.bool true) ∧ Below w.heap.size w w' := by
  have HG := Lib.hid hG
  clear hG
  by_cases hl : 1500 < s.size ∧ s.size ≤ 65536 ∨ 65546 < s.size
  · have HL := Lib.hid (fun w => law_long s w true (decide_eq_true hl))
    go_enter Tryd.func4, Tryd.ntmps4
    go_wp2_with (first | (go_at_call 13; refine (HL.out _).mono ?_; rintro e w1 ⟨rfl, rfl⟩) | (go_at_call 8; refine (law_lives _ HG.out).mono ?_; rintro e w2 ⟨rfl, hb2⟩))
    go_ret
    exact ⟨rfl, hb2⟩
  · have HL := Lib.hid (fun w => law_long s w false (decide_eq_false hl))
    have hsz : s.size ≤ 65546 := by omega
    have HA := Lib.hid (fun w (h : Glob w) => lx_All s w h (by omega))
    have HB := Lib.hid (fun w => rf_All s w (by omega))
    have HA2 : Hid (∀ w, Glob w → Calls Tryd.prog 14 #[.string s] w fun e w' => ∃ A c, e = .returned (.tuple #[.slice A (lsR (allS s)).length c, .int .i64 (atR (allS s)), .int .i64 (cdR (allS s))]) ∧ RT w' A (lsR (allS s)) ∧ Below w.heap.size w w' ∧ (lsR (allS s)).length ≤ s.size) := Lib.hid (fun w h => (HA.out w h).mono fun e w' h => all_any h)
    have HB2 : Hid (∀ w, Calls Tryd.prog 15 #[.string s] w fun e w' => ∃ A c, e = .returned (.tuple #[.slice A (lsR (allS s)).length c, .int .i64 (atR (allS s)), .int .i64 (cdR (allS s))]) ∧ RT w' A (lsR (allS s)) ∧ Below w.heap.size w w' ∧ (lsR (allS s)).length ≤ s.size) := Lib.hid (fun w => (HB.out w).mono fun e w' h => all_any h)
    clear HA HB hl
    generalize lsR (allS s) = l at HA2 HB2
    generalize atR (allS s) = p at HA2 HB2
    generalize cdR (allS s) = c at HA2 HB2
    go_enter Tryd.func4, Tryd.ntmps4
    go_upto_region 3 with (go_at_call 13; refine (HL.out _).mono ?_; rintro e w1 ⟨rfl, rfl⟩)
    go_upto_region 4 with (go_at_call 14; refine (HA2.out w HG.out).mono ?_; rintro e w1 ⟨A1, c1, rfl, hr1, hb1, hl1⟩; have HR1 := Lib.hid hr1; clear hr1)
    go_upto_region 5 with (go_at_call 15; refine (HB2.out w1).mono ?_; rintro e w2 ⟨A2, c2, rfl, hr2, hb2, _⟩; have HR2 := Lib.hid hr2; clear hr2)
    have k2 : Below w.heap.size w w2 := hb1.trans (hb2.mono hb1.size)
    go_wp2_with (first
      | (go_at_call 12; refine (to_rt (HR1.out.step hb2) (by omega)).mono ?_; rintro e w3 ⟨B3, d3, rfl, hr3, hb3⟩; have HR3 := Lib.hid hr3; have hk3 := k2.trans (hb3.mono k2.size); have HK3 := Lib.hid hk3; have HB3 := Lib.hid hb3; clear hr3 hb3 hk3)
      | (go_at_call 11; refine (rf_Same _ _ _ _ l w3 HR3.out (HR2.out.step HB3.out) (by omega)).mono ?_; rintro e w4 ⟨rfl, hb4⟩; have hk4 := HK3.out.trans (hb4.mono HK3.out.size); have HK4 := Lib.hid hk4; clear hb4 hk4)
      | (go_at_call 8; refine (law_lives w4 (HG.out.step HK4.out)).mono ?_; rintro e w5 ⟨rfl, hb5⟩; have hk5 := HK4.out.trans (hb5.mono HK4.out.size); have HK5 := Lib.hid hk5; clear hb5 hk5))
    go_ret
    exact ⟨by simp, HK5.out⟩
end Go.Proofs.YtnmofkngengoeaaDoor
