/- The parser of layer 7 (ptext): its state; peek, digit, need, operator. -/
import Derived.Test.YtipapemcedkinaaN6
import Derived.Deep.QuietTactic
namespace Go.Proofs.Ytipapemcedkinaa
open Go.RowKit Go.PlainAid

/-- The parser at block pb: the text s, read up to k. -/
abbrev Ps (pb : Nat) (s : ByteArray) (k : Nat) (w : World) : Prop := Blk w pb 43 #[.string s, .int .i64 (k : Int)]
theorem Ps.drew_put {pb : Nat} {s : ByteArray} {k : Nat} {w : World} (h : Ps pb s k w) (n j : Nat) : Ps pb s j ((w.drewN n).setCell ⟨pb, 1, none⟩ (.int .i64 (j : Int))) := (h.drewN n).set_ 1 _
theorem Ps.put {pb : Nat} {s : ByteArray} {k : Nat} {w : World} (h : Ps pb s k w) (j : Nat) : Ps pb s j (w.setCell ⟨pb, 1, none⟩ (.int .i64 (j : Int))) := h.set_ 1 _
abbrev At (pb : Nat) : Nat → Prop := fun b => b = pb
theorem frm_drew {S : Nat → Prop} {w : World} (n : Nat) : Frm S w (w.drewN n) := (Frm.refl S w).drewN n
/-- The panic of a fault at a. -/
abbrev faultAt (a : Nat) : Ending := .panicked [{ v := .iface 41 (.int .i64 (a : Int)), recovered := false }]
set_option maxRecDepth 100000 in
set_option maxHeartbeats 1000000 in
theorem p_peek (pb : Nat) (s : ByteArray) (k : Nat) (w : World) (h : Ps pb s k w) (hk : k ≤ s.size) (_hs : s.size ≤ 65536) :
    Calls Try.prog 23 #[.pointer (some ⟨pb, 0, none⟩)] w fun e w' => e = .returned (.int .u8 (Go.PlainAid.bt s k)) ∧ ∃ m, w' = w.drewN m := by
  have hb := get_bt s
  have c0 : w.cell? ⟨pb, 0, none⟩ = some (.string s) := h.cell 0
  have c1 : w.cell? ⟨pb, 1, none⟩ = some (.int .i64 (k : Int)) := h.cell 1
  clear h
  rcases Nat.eq_or_lt_of_le hk with hk | hlt
  · have h1 : ((k : Int) == (s.size : Int)) = true := by simp [hk]
    have h2 : Go.PlainAid.bt s k = 0 := bt_end s (by omega)
    go_enter Try.func23, Try.ntmps23
    go_wp2_with fail
    go_quiet (fail)
    go_wp2
    go_ret
    exact ⟨by rw [h2]; rfl, _, rfl⟩
  · have h1 : ((k : Int) == (s.size : Int)) = false := by simp; omega
    go_enter Try.func23, Try.ntmps23
    go_wp2_with fail
    go_quiet (fail)
    go_wp2_with fail
    go_quiet (fail)
    go_wp2
    go_ret
    exact ⟨rfl, _, by rw [World.drewN_drewN]⟩
theorem peek_any {pb : Nat} {s : ByteArray} {k : Nat} {w : World} (h : Ps pb s k w) (hk : k ≤ s.size) (hs : s.size ≤ 65536) (n : Nat) :
    Calls Try.prog 23 #[.pointer (some ⟨pb, 0, none⟩)] (w.drewN n) fun e w' => e = .returned (.int .u8 (Go.PlainAid.bt s k)) ∧ ∃ m, w' = w.drewN m :=
  Calls.quiet_of (p_peek pb s k (w.drewN n) (h.drewN n) hk hs)
set_option maxRecDepth 100000 in
theorem p_digit (pb : Nat) (s : ByteArray) (k : Nat) (w : World) (h : Ps pb s k w) (hk : k ≤ s.size) (hs : s.size ≤ 65536) :
    Calls Try.prog 38 #[.pointer (some ⟨pb, 0, none⟩)] w fun e w' => e = .returned (.bool (decide (48 ≤ Go.PlainAid.bt s k ∧ Go.PlainAid.bt s k ≤ 57))) ∧ ∃ m, w' = w.drewN m := by
  have HP := Lib.hid (p_peek pb s k w h hk hs)
  clear h
  by_cases h1 : 48 ≤ Go.PlainAid.bt s k
  · by_cases h2 : Go.PlainAid.bt s k ≤ 57
    · have h3 : decide (48 ≤ Go.PlainAid.bt s k ∧ Go.PlainAid.bt s k ≤ 57) = true := by simp [h1, h2]
      rw [h3]
      go_enter Try.func38, Try.ntmps38
      go_wp2_with (go_at_call 23; refine HP.out.mono ?_; rintro e w1 ⟨rfl, m, rfl⟩)
      go_ret
      exact ⟨rfl, _, rfl⟩
    · have h3 : decide (48 ≤ Go.PlainAid.bt s k ∧ Go.PlainAid.bt s k ≤ 57) = false := by simp [h1, h2]
      rw [h3]
      go_enter Try.func38, Try.ntmps38
      go_wp2_with (go_at_call 23; refine HP.out.mono ?_; rintro e w1 ⟨rfl, m, rfl⟩)
      go_ret
      exact ⟨by show Ending.returned (.bool (decide (Go.PlainAid.bt s k ≤ 57))) = _; rw [decide_eq_false (by omega)], _, rfl⟩
  · have h3 : decide (48 ≤ Go.PlainAid.bt s k ∧ Go.PlainAid.bt s k ≤ 57) = false := by simp [h1]
    rw [h3]
    go_enter Try.func38, Try.ntmps38
    go_wp2_with (go_at_call 23; refine HP.out.mono ?_; rintro e w1 ⟨rfl, m, rfl⟩)
    go_ret
    exact ⟨rfl, _, rfl⟩
/-- The bytes of L at k: the place behind them, or that of the first that parts. -/
def wordL (s : ByteArray) : List Int → Nat → Nat × Bool
  | [], k => (k, true)
  | c :: r, k => if Go.PlainAid.bt s k = c then wordL s r (k + 1) else (k, false)
theorem wordL_step (s wd : ByteArray) {j : Nat} (h : j < wd.size) (k : Nat) : wordL s ((intsOf wd).drop j) k = if Go.PlainAid.bt s k = Go.PlainAid.bt wd j then wordL s ((intsOf wd).drop (j + 1)) (k + 1) else (k, false) := by
  have h2 : j < (intsOf wd).length := by rw [intsOf_len]; exact h
  rw [List.drop_eq_getElem_cons h2, wordL, bt_ints wd j h]
  simp [List.getD, List.getElem?_eq_getElem h2]
def NeedP (pb : Nat) (s : ByteArray) (w : World) (R : Nat × Bool) (e : Ending) (w' : World) : Prop :=
  Frm (At pb) w w' ∧ (R.2 = true → e = .returned (.tuple #[]) ∧ Ps pb s R.1 w') ∧ (R.2 = false → e = faultAt R.1)
set_option maxRecDepth 100000 in
set_option maxHeartbeats 2000000 in
theorem p_need (pb : Nat) (s wd : ByteArray) (k : Nat) (w : World) (h : Ps pb s k w) (hk : k ≤ s.size) (hs : s.size ≤ 65536) (hw : wd.size ≤ 8) (hz : ∀ i, i < wd.size → Go.PlainAid.bt wd i ≠ 0) :
    Calls Try.prog 24 #[.pointer (some ⟨pb, 0, none⟩), .string wd] w (NeedP pb s w (wordL s (intsOf wd) k)) := by
  have hb := get_bt wd
  have HZ := Lib.hid hz
  have H0 := Lib.hid h
  clear hz h
  obtain ⟨R, hR⟩ : ∃ R, wordL s (intsOf wd) k = R := ⟨_, rfl⟩
  rw [hR]
  have HR : Hid (wordL s ((intsOf wd).drop 0) (k + 0) = R) := Lib.hid hR
  clear hR
  go_enter Try.func24, Try.ntmps24
  go_wp2
  go_loopw [4, 7] (fun _ i wr => ∃ j kj : Nat, kj = k + j ∧ j ≤ wd.size ∧ kj ≤ s.size ∧ i = .int .i64 (j : Int) ∧ Hid (wordL s ((intsOf wd).drop j) kj = R) ∧ Hid (Ps pb s kj wr) ∧ Hid (Frm (At pb) w wr)) (fun _ i _ => wd.size - (intOf i).toNat)
  case atStart => exact ⟨0, k, rfl, Nat.zero_le _, hk, rfl, HR, H0, Lib.hid (Frm.refl _ _)⟩
  case round =>
    obtain ⟨j, kj, ekj, hj, hkj, rfl, HV, HP, HF⟩ := hrel
    have EK := Lib.hid ekj
    clear HR H0 ekj
    by_cases hlt : j < wd.size
    · have h1 : (j : Int) < (wd.size : Int) := by omega
      have hst := wordL_step s wd hlt kj
      rw [HV.out] at hst
      have HPK := Lib.hid (peek_any HP.out hkj hs)
      have c1 : wr.cell? ⟨pb, 1, none⟩ = some (.int .i64 (kj : Int)) := HP.out.cell 1
      have f1 : wr.frozen? ⟨pb, 1, none⟩ = false := HP.out.frozen 1
      by_cases hc : Go.PlainAid.bt s kj = Go.PlainAid.bt wd j
      · have hd : (Go.PlainAid.bt s kj != Go.PlainAid.bt wd j) = false := by simp [hc]
        have hlt2 : kj < s.size := by
          rcases Nat.lt_or_ge kj s.size with h2 | h2
          · exact h2
          · exact absurd (hc ▸ bt_end s h2) (HZ.out j hlt)
        rw [if_pos hc] at hst
        have HS := Lib.hid hst
        have HU : Hid (∀ n, Ps pb s (kj + 1) ((wr.drewN n).setCell ⟨pb, 1, none⟩ (.int .i64 ((kj + 1 : Nat) : Int)))) := Lib.hid (fun n => Ps.drew_put HP.out n _)
        have HG : Hid (∀ n, Frm (At pb) w ((wr.drewN n).setCell ⟨pb, 1, none⟩ (.int .i64 ((kj + 1 : Nat) : Int)))) := Lib.hid (fun n => (HF.out.drewN n).set rfl _ _)
        clear hst hc HV HP HF
        go_wp2_with fail
        go_quiet ((go_at_call 23; exact HPK.out _))
        go_wp2
        go_roundw
        case rel => exact ⟨j + 1, kj + 1, by rw [EK.out]; omega, by omega, by omega, by go_num, Lib.hid HS.out.symm, Lib.hid (HU.out _), Lib.hid (HG.out _)⟩
        case measure => simp [intOf]; omega
      · have hd : (Go.PlainAid.bt s kj != Go.PlainAid.bt wd j) = true := by simp [hc]
        rw [if_neg hc] at hst
        have HS := Lib.hid hst
        clear hst hc HV HP
        go_wp2_with fail
        go_quiet ((go_at_call 23; exact HPK.out _))
        go_wp2
        rw [HS.out]
        exact ⟨rfl, HF.out.drewN _, fun h => (by cases h), fun _ => rfl⟩
    · obtain rfl : j = wd.size := by omega
      have h1 : ¬ (wd.size : Int) < (wd.size : Int) := by omega
      have hV := HV.out
      rw [List.drop_eq_nil_of_le (by rw [intsOf_len]; omega)] at hV
      have HV2 : Hid (R = (kj, true)) := Lib.hid hV.symm
      go_wp2
      go_end0
      rw [HV2.out]
      exact ⟨HF.out, fun _ => ⟨rfl, HP.out⟩, fun h => by cases h⟩
end Go.Proofs.Ytipapemcedkinaa
