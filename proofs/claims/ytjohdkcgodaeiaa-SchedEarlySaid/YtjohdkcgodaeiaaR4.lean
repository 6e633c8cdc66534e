/- The specification's fresh; layer 42 (sched). -/
import Derived.Test.YtjohdkcgodaeiaaR2
import Derived.Test.YtjohdkcgodaeiaaR3
namespace Go.Proofs.Ytjohdkcgodaeiaa
open Go.RowKit

/-- a part of R has v. -/
def anyP (rows : List Rw) (R : List Nat) (v : Int) : Bool := R.any fun j => mem (pr rows j) v
def frR (rows : List Rw) (R : List Nat) (k : Nat) : Nat := ((setL (pr rows k)).filter fun v => !anyP rows R v).length
theorem anyP_succ {rows : List Rw} {v : Int} {R : List Nat} {j : Nat} (h : j < R.length) : anyP rows (R.take (j + 1)) v = (anyP rows (R.take j) v || mem (pr rows (R.getD j 0)) v) := by
  unfold anyP
  rw [take_getD h, List.any_append]; simp
set_option maxRecDepth 100000 in
set_option maxHeartbeats 8000000 in
theorem ref_fresh (A AL : Option Addr) (ca cl : Nat) (rows : List Rw) (R : List Nat) (k : Nat) (w : World) (hP : RR w w.heap.size A rows) (hL : RI w w.heap.size AL (nl R))
    (hR : ∀ j ∈ R, j < rows.length) (hk : k < rows.length) (hr : rows.length ≤ 1000000) (hlr : R.length ≤ 1000000) (hlp : ∀ j, j < rows.length → (pr rows j).length ≤ 1000000) :
    Calls Try.prog 27 #[.slice A rows.length ca, .slice AL R.length cl, .int .i64 (k : Int)] w fun e w' => e = .returned (.int .i64 (frR rows R k : Nat)) ∧ Below w.heap.size w w' := by
  have HP := Lib.hid hP
  have HL := Lib.hid hL
  have HR := Lib.hid hR
  have HLP := Lib.hid hlp
  clear hP hL hR hlp
  have hk0 : (0 : Int) ≤ (k : Int) := by omega
  have hk1 : (k : Int) < (rows.length : Int) := by omega
  obtain ⟨b, off, rfl, hb, hc⟩ := HP.out.at_ (by omega)
  have ck := hc k hk
  have HRK := (HP.out.row k hk).1
  have hlk := HLP.out k hk
  unfold rcell at ck
  unfold pr at hlk
  obtain ⟨⟨Ak, cka, lk⟩, hrk⟩ : ∃ r, rw_ rows k = r := ⟨_, rfl⟩
  have HK : Hid (pr rows k = lk) := Lib.hid (by unfold pr; rw [hrk])
  rw [hrk] at ck HRK hlk
  dsimp only at ck HRK hlk
  have HSET := Lib.hid (ref_set Ak cka lk w HRK (by omega))
  have hOl := set_le lk
  obtain ⟨O, hO⟩ : ∃ O, setL lk = O := ⟨_, rfl⟩
  rw [hO] at HSET hOl
  have HFIN : Hid (frR rows R k = (O.filter fun v => !anyP rows R v).length) := Lib.hid (by unfold frR; rw [HK.out, hO])
  rw [HFIN.out]
  clear hrk hc HRK hO HFIN HK
  have HCNT : Hid (∀ i, i < O.length → ((O.take (i + 1)).filter fun v => !anyP rows R v).length = ((O.take i).filter fun v => !anyP rows R v).length + if anyP rows R (li O i) then 0 else 1) := Lib.hid (fun i hi => by
    rw [List.take_succ_eq_append_getElem hi, List.filter_append, List.length_append, li_get hi]
    cases h : anyP rows R O[i] <;> simp [h])
  have HLE : Hid (∀ i, ((O.take i).filter fun v => !anyP rows R v).length ≤ 1000000) := Lib.hid (fun i => by
    have h1 := List.length_filter_le (fun v => !anyP rows R v) (O.take i)
    rw [List.length_take] at h1; omega)
  obtain ⟨T, hT⟩ : ∃ T, (O.filter fun v => !anyP rows R v).length = T := ⟨_, rfl⟩
  rw [hT]
  have HT := Lib.hid hT
  clear hT
  go_enter Try.func27, Try.ntmps27
  go_wp2_with (go_at_call 25; refine HSET.out.mono ?_; rintro e w1 ⟨v1, rfl, hO1, hb1⟩; obtain ⟨AO, co, rfl, hRO, _⟩ := hO1.form; have HRO := Lib.hid hRO; have HB1 := Lib.hid hb1; clear hO1 hRO)
  have HP1 := Lib.hid (HP.out.step HB1.out)
  have HL1 := Lib.hid (HL.out.step HB1.out)
  obtain ⟨_, _, hbe, hb3, hc3⟩ := HP1.out.at_ (by omega)
  injection hbe with hbe
  injection hbe with hbe1 hbe2
  subst hbe1 hbe2
  have HC := Lib.hid hc3
  clear hc3 ck HP HL hb hb1
  go_loopw [8, 9] (fun n i wr => ∃ t m : Nat, t ≤ O.length ∧ i = .int .i64 (t : Int) ∧ n = .int .i64 (((O.take t).filter fun v => !anyP rows R v).length : Nat) ∧ wr = w1.drewN m) (fun _ i _ => O.length - (intOf i).toNat)
  case atStart => exact ⟨0, 0, Nat.zero_le _, rfl, rfl, rfl⟩
  case round =>
    obtain ⟨t, m, ht, rfl, rfl, hwr⟩ := hrel
    have HWR := Lib.hid hwr
    by_cases hlt : t < O.length
    · have h1 : (t : Int) < (O.length : Int) := by omega
      have h0 : (0 : Int) ≤ (t : Int) := by omega
      obtain ⟨bo, oo, rfl, hbo, hco⟩ := HRO.out (by omega)
      have co0 := hco t hlt
      have hcnt := HCNT.out t hlt
      have hle := HLE.out t
      obtain ⟨v, hv⟩ : ∃ v, li O t = v := ⟨_, rfl⟩
      rw [hv] at co0 hcnt
      have HCO := Lib.hid co0
      obtain ⟨c1, hc1⟩ : ∃ c1, ((O.take t).filter fun v => !anyP rows R v).length = c1 := ⟨_, rfl⟩
      obtain ⟨c2, hc2⟩ : ∃ c2, ((O.take (t + 1)).filter fun v => !anyP rows R v).length = c2 := ⟨_, rfl⟩
      rw [hc1] at hcnt hle ⊢
      rw [hc2] at hcnt
      have HC2 := Lib.hid hc2
      have HE := Lib.hid hcnt
      have hwrp : IntKind.i64.wrap ((c1 : Int) + 1) = (c1 : Int) + 1 := IntWalk.i64_in _ (by omega)
      clear hco hv hc1 hc2 hcnt co0 hwr
      go_wp2
      go_loopw [10, 11] (fun o i wr => ∃ j m : Nat, j ≤ R.length ∧ i = .int .i64 (j : Int) ∧ o = .bool (anyP rows (R.take j) v) ∧ wr = w1.drewN m) (fun _ i _ => R.length - (intOf i).toNat)
      case atStart => exact ⟨0, _, Nat.zero_le _, rfl, rfl, HWR.out⟩
      case round =>
        obtain ⟨j, m3, hj, rfl, rfl, hwr3⟩ := hrel
        have HWR3 := Lib.hid hwr3
        by_cases hjl : j < R.length
        · have g1 : (j : Int) < (R.length : Int) := by omega
          have g0 : (0 : Int) ≤ (j : Int) := by omega
          have hln := nl_len R
          obtain ⟨bl, ol, rfl, hbl, hcl⟩ := HL1.out (by omega)
          have cl1 := hcl j (by omega)
          rw [nl_at hjl] at cl1
          have hs := anyP_succ (rows := rows) (v := v) hjl
          have hin := HR.out _ (getD_mem hjl)
          generalize R.getD j 0 = x at *
          have cx := HC.out x hin
          have hlx := HLP.out x hin
          have HRX := Lib.hid (HP1.out.row x hin).1
          have hx0 : (0 : Int) ≤ (x : Int) := by omega
          have hx1 : (x : Int) < (rows.length : Int) := by omega
          unfold rcell at cx
          unfold pr at hlx
          obtain ⟨⟨Ax, cax, lx⟩, hrx⟩ : ∃ r, rw_ rows x = r := ⟨_, rfl⟩
          have hprx : pr rows x = lx := by unfold pr; rw [hrx]
          rw [hrx] at cx HRX hlx
          dsimp only at cx HRX hlx
          rw [hprx] at hs
          have HS := Lib.hid hs
          have e1 : wr.cell? ⟨bl, ol + j, none⟩ = some (.int .i64 (x : Int)) := by rw [hwr3]; exact cl1
          have e2 : wr.cell? ⟨b, off + x, none⟩ = some (.slice Ax lx.length cax) := by rw [hwr3]; exact cx
          have e3 : wr.cell? ⟨bo, oo + t, none⟩ = some (.int .i64 v) := by rw [hwr3]; exact HCO.out
          have HQ2 : Hid (∀ n, Calls Try.prog 28 #[.slice Ax lx.length cax, .int .i64 v] (wr.drewN n) fun e w' => e = .returned (.bool (mem lx v)) ∧ wr.drewN n = w') := Lib.hid (fun n => by
            rw [hwr3]; exact ref_In _ _ _ _ _ ((HRX.out.drewN m3).drewN n) (by omega))
          have HREL : Hid (∀ n, wr.drewN n = w1.drewN (m3 + n)) := Lib.hid (fun n => by rw [hwr3, World.drewN_drewN])
          clear hs hrx hprx hcl cl1 cx hwr3 hln hin
          obtain ⟨ob, hob⟩ : ∃ q, anyP rows (R.take j) v = q := ⟨_, rfl⟩
          obtain ⟨on, hon⟩ : ∃ q, anyP rows (R.take (j + 1)) v = q := ⟨_, rfl⟩
          rw [hob, hon] at HS
          rw [hob]
          have HON := Lib.hid hon
          obtain ⟨q2, hq2⟩ : ∃ q, mem lx v = q := ⟨_, rfl⟩
          rw [hq2] at HQ2 HS
          clear hob hon hq2
          cases ob <;> cases q2
          all_goals
            go_wp2_with fail
            go_quiet ((go_at_call 28; exact quiet_left (HQ2.out _)))
            go_wp2
            go_roundw
            case rel => exact ⟨j + 1, _, by omega, by go_num, by rw [HON.out, HS.out]; rfl, HREL.out _⟩
            case measure => simp [intOf]; omega
        · obtain rfl : j = R.length := by omega
          have g1 : ¬ (R.length : Int) < (R.length : Int) := by omega
          rw [List.take_length]
          obtain ⟨ob, hob⟩ : ∃ q, anyP rows R v = q := ⟨_, rfl⟩
          rw [hob] at HE ⊢
          clear hob
          cases ob
          · have HE2 : Hid (c2 = c1 + 1) := Lib.hid (by rw [HE.out]; rfl)
            go_wp2
            go_roundw
            case rel => exact ⟨t + 1, m3, by omega, by go_num, by rw [HC2.out, HE2.out]; go_num, by first | rfl | exact HWR3.out⟩
            case measure => simp [intOf]; omega
          · have HE2 : Hid (c2 = c1) := Lib.hid (by rw [HE.out]; rfl)
            go_wp2
            go_roundw
            case rel => exact ⟨t + 1, m3, by omega, by go_num, by rw [HC2.out, HE2.out], by first | rfl | exact HWR3.out⟩
            case measure => simp [intOf]; omega
    · obtain rfl : t = O.length := by omega
      have h1 : ¬ (O.length : Int) < (O.length : Int) := by omega
      rw [List.take_length, HT.out]
      go_wp2
      go_ret
      exact ⟨rfl, below_drewN HB1.out _⟩
end Go.Proofs.Ytjohdkcgodaeiaa
