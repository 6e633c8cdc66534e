/- The specification's alone; layer 42 (sched). -/
import Derived.Test.YtjohdkcgodaeiaaR1
import Derived.Test.YtjohdkcgodaeiaaV4
namespace Go.Proofs.Ytjohdkcgodaeiaa
open Go.RowKit

/-- What the k-th part is. -/
def pr (rows : List Rw) (k : Nat) : List Int := (rw_ rows k).2.2
def mem (l : List Int) (v : Int) : Bool := decide (v ∈ l)
/-- Indices as integers. -/
def nl (R : List Nat) : List Int := List.map (fun n : Nat => (n : Int)) R
theorem nl_len (R : List Nat) : (nl R).length = R.length := by unfold nl; simp
theorem nl_at {R : List Nat} {j : Nat} (h : j < R.length) : li (nl R) j = ((R.getD j 0 : Nat) : Int) := by
  unfold li nl
  simp [List.getD, List.getElem?_eq_getElem h]
theorem getD_mem {R : List Nat} {j : Nat} (h : j < R.length) : R.getD j 0 ∈ R := by
  simp [List.getD, List.getElem?_eq_getElem h]
theorem take_getD {R : List Nat} {j : Nat} (h : j < R.length) : R.take (j + 1) = R.take j ++ [R.getD j 0] := by
  rw [List.take_succ_eq_append_getElem h]; simp [List.getD, List.getElem?_eq_getElem h]
/-- another part of R than the k-th has v. -/
def oth (rows : List Rw) (k : Nat) (v : Int) (R : List Nat) : Bool := R.any fun j => j != k && mem (pr rows j) v
def alP (rows : List Rw) (R : List Nat) (k : Nat) (v : Int) : Bool := mem (pr rows k) v && !oth rows k v R
def alR (rows : List Rw) (R : List Nat) (k : Nat) (O : List Int) : Nat := (O.filter (alP rows R k)).length
theorem oth_succ {rows : List Rw} {k : Nat} {v : Int} {R : List Nat} {j : Nat} (h : j < R.length) : oth rows k v (R.take (j + 1)) = (oth rows k v (R.take j) || (R.getD j 0 != k && mem (pr rows (R.getD j 0)) v)) := by
  unfold oth
  rw [take_getD h, List.any_append]; simp
set_option maxRecDepth 100000 in
set_option maxHeartbeats 8000000 in
theorem ref_alone (A AL AO : Option Addr) (ca cl co : Nat) (rows : List Rw) (R : List Nat) (k : Nat) (O : List Int) (w : World) (hP : RR w w.heap.size A rows) (hL : RI w w.heap.size AL (nl R)) (hO : RI w w.heap.size AO O)
    (hR : ∀ j ∈ R, j < rows.length) (hk : k < rows.length) (hr : rows.length ≤ 1000000) (hlr : R.length ≤ 1000000) (hlo : O.length ≤ 1000000) (hlp : ∀ j, j < rows.length → (pr rows j).length ≤ 1000000) :
    Calls Try.prog 26 #[.slice A rows.length ca, .slice AL R.length cl, .int .i64 (k : Int), .slice AO O.length co] w fun e w' => e = .returned (.int .i64 (alR rows R k O : Nat)) ∧ ∃ n, w' = w.drewN n := by
  have HP := Lib.hid hP
  have HL := Lib.hid hL
  have HO := Lib.hid hO
  have HR := Lib.hid hR
  have HLP := Lib.hid hlp
  clear hP hL hO hR hlp
  have hk0 : (0 : Int) ≤ (k : Int) := by omega
  have hk1 : (k : Int) < (rows.length : Int) := by omega
  obtain ⟨b, off, rfl, hb, hc⟩ := HP.out.at_ (by omega)
  have ck := hc k hk
  have HC := Lib.hid hc
  have HRK := Lib.hid (HP.out.row k hk).1
  have hlk := HLP.out k hk
  unfold rcell at ck
  unfold pr at hlk
  obtain ⟨⟨Ak, cka, lk⟩, hrk⟩ : ∃ r, rw_ rows k = r := ⟨_, rfl⟩
  have HK : Hid (pr rows k = lk) := Lib.hid (by unfold pr; rw [hrk])
  rw [hrk] at ck HRK hlk
  dsimp only at ck HRK hlk
  clear hrk hc
  have HCNT : Hid (∀ i, i < O.length → ((O.take (i + 1)).filter (alP rows R k)).length = ((O.take i).filter (alP rows R k)).length + if alP rows R k (li O i) then 1 else 0) := Lib.hid (fun i hi => by
    rw [List.take_succ_eq_append_getElem hi, List.filter_append, List.length_append, li_get hi]
    cases h : alP rows R k O[i] <;> simp [h])
  have HLE : Hid (∀ i, ((O.take i).filter (alP rows R k)).length ≤ 1000000) := Lib.hid (fun i => by
    have h1 := List.length_filter_le (alP rows R k) (O.take i)
    rw [List.length_take] at h1; omega)
  go_enter Try.func26, Try.ntmps26
  go_wp2
  go_loopw [9, 10] (fun n i wr => ∃ t m : Nat, t ≤ O.length ∧ i = .int .i64 (t : Int) ∧ n = .int .i64 (((O.take t).filter (alP rows R k)).length : Nat) ∧ wr = w.drewN m) (fun _ i _ => O.length - (intOf i).toNat)
  case atStart => exact ⟨0, 0, Nat.zero_le _, rfl, rfl, rfl⟩
  case round =>
    obtain ⟨t, m, ht, rfl, rfl, hwr⟩ := hrel
    have HWR := Lib.hid hwr
    by_cases hlt : t < O.length
    · have h1 : (t : Int) < (O.length : Int) := by omega
      have h0 : (0 : Int) ≤ (t : Int) := by omega
      obtain ⟨bo, oo, rfl, hbo, hco⟩ := HO.out (by omega)
      have co0 := hco t hlt
      have hcnt := HCNT.out t hlt
      have hle := HLE.out t
      obtain ⟨v, hv⟩ : ∃ v, li O t = v := ⟨_, rfl⟩
      rw [hv] at co0 hcnt
      have HCO := Lib.hid co0
      have co1 : wr.cell? ⟨bo, oo + t, none⟩ = some (.int .i64 v) := by rw [hwr]; exact co0
      have ck1 : wr.cell? ⟨b, off + k, none⟩ = some (.slice Ak lk.length cka) := by rw [hwr]; exact ck
      obtain ⟨c1, hc1⟩ : ∃ c1, ((O.take t).filter (alP rows R k)).length = c1 := ⟨_, rfl⟩
      obtain ⟨c2, hc2⟩ : ∃ c2, ((O.take (t + 1)).filter (alP rows R k)).length = c2 := ⟨_, rfl⟩
      rw [hc1] at hcnt hle ⊢
      rw [hc2] at hcnt
      have HC2 := Lib.hid hc2
      have HCN := Lib.hid hcnt
      have HQ1 : Hid (∀ n, Calls Try.prog 28 #[.slice Ak lk.length cka, .int .i64 v] (wr.drewN n) fun e w' => e = .returned (.bool (mem lk v)) ∧ wr.drewN n = w') := Lib.hid (fun n => by
        rw [hwr]; exact ref_In _ _ _ _ _ ((HRK.out.drewN m).drewN n) (by omega))
      have hwrp : IntKind.i64.wrap ((c1 : Int) + 1) = (c1 : Int) + 1 := IntWalk.i64_in _ (by omega)
      clear hco hv hc1 hc2 hcnt co0 hwr
      obtain ⟨q1, hq1⟩ : ∃ q, mem lk v = q := ⟨_, rfl⟩
      rw [hq1] at HQ1
      cases q1
      · have HE : Hid (c2 = c1) := Lib.hid (by rw [HCN.out]; unfold alP; rw [HK.out, hq1]; simp)
        clear hq1
        go_wp2_with fail
        go_quiet ((go_at_call 28; exact quiet_left (HQ1.out _)))
        go_wp2
        go_roundw
        case rel => exact ⟨t + 1, m + nq, by omega, by go_num, by rw [HC2.out, HE.out], by rw [HWR.out, World.drewN_drewN]⟩
        case measure => simp [intOf]; omega
      · have HE : Hid (c2 = c1 + if !oth rows k v R then 1 else 0) := Lib.hid (by rw [HCN.out]; unfold alP; rw [HK.out, hq1]; simp)
        clear hq1
        go_wp2_with fail
        go_quiet ((go_at_call 28; exact quiet_left (HQ1.out _)))
        go_wp2
        obtain ⟨W0, hW0⟩ : ∃ W, wr.drewN nq = W := ⟨_, rfl⟩
        have HW0 : Hid (W0 = w.drewN (m + nq)) := Lib.hid (by rw [← hW0, HWR.out, World.drewN_drewN])
        rw [hW0]
        clear hW0 ck co1 HQ1
        go_loopw [11, 12] (fun o i wr => ∃ j m : Nat, j ≤ R.length ∧ i = .int .i64 (j : Int) ∧ o = .bool (oth rows k v (R.take j)) ∧ wr = w.drewN m) (fun _ i _ => R.length - (intOf i).toNat)
        case atStart => exact ⟨0, _, Nat.zero_le _, rfl, rfl, HW0.out⟩
        case round =>
          obtain ⟨j, m3, hj, rfl, rfl, hwr3⟩ := hrel
          have HWR3 := Lib.hid hwr3
          by_cases hjl : j < R.length
          · have g1 : (j : Int) < (R.length : Int) := by omega
            have g0 : (0 : Int) ≤ (j : Int) := by omega
            have hln := nl_len R
            obtain ⟨bl, ol, rfl, hbl, hcl⟩ := HL.out (by omega)
            have cl1 := hcl j (by omega)
            rw [nl_at hjl] at cl1
            have hs := oth_succ (rows := rows) (k := k) (v := v) hjl
            have hin := HR.out _ (getD_mem hjl)
            generalize R.getD j 0 = x at *
            have cx := HC.out x hin
            have hlx := HLP.out x hin
            have HRX := Lib.hid (HP.out.row x hin).1
            have hx0 : (0 : Int) ≤ (x : Int) := by omega
            have hx1 : (x : Int) < (rows.length : Int) := by omega
            unfold rcell at cx
            unfold pr at hlx
            obtain ⟨⟨Ax, cax, lx⟩, hrx⟩ : ∃ r, rw_ rows x = r := ⟨_, rfl⟩
            have hprx : pr rows x = lx := by unfold pr; rw [hrx]
            rw [hrx] at cx HRX hlx
            dsimp only at cx HRX hlx
            rw [hprx] at hs
            have HS := Lib.hid hs
            have e1 : wr.cell? ⟨bl, ol + j, none⟩ = some (.int .i64 (x : Int)) := by rw [hwr3]; exact cl1
            have e2 : wr.cell? ⟨b, off + x, none⟩ = some (.slice Ax lx.length cax) := by rw [hwr3]; exact cx
            have e3 : wr.cell? ⟨bo, oo + t, none⟩ = some (.int .i64 v) := by rw [hwr3]; exact HCO.out
            have HQ2 : Hid (∀ n, Calls Try.prog 28 #[.slice Ax lx.length cax, .int .i64 v] (wr.drewN n) fun e w' => e = .returned (.bool (mem lx v)) ∧ wr.drewN n = w') := Lib.hid (fun n => by
              rw [hwr3]; exact ref_In _ _ _ _ _ ((HRX.out.drewN m3).drewN n) (by omega))
            have HREL : Hid (∀ n, wr.drewN n = w.drewN (m3 + n)) := Lib.hid (fun n => by rw [hwr3, World.drewN_drewN])
            clear hs hrx hprx hcl cl1 cx hwr3 hln hin
            obtain ⟨ob, hob⟩ : ∃ q, oth rows k v (R.take j) = q := ⟨_, rfl⟩
            obtain ⟨on, hon⟩ : ∃ q, oth rows k v (R.take (j + 1)) = q := ⟨_, rfl⟩
            rw [hob, hon] at HS
            rw [hob]
            have HON := Lib.hid hon
            obtain ⟨q2, hq2⟩ : ∃ q, mem lx v = q := ⟨_, rfl⟩
            rw [hq2] at HQ2 HS
            clear hob hon hq2
            by_cases hxk : x = k
            · have f1 : ((x : Int) != (k : Int)) = false := by simp [hxk]
              have f2 : (x != k) = false := by simp [hxk]
              rw [f2] at HS
              clear hxk f2
              cases ob
              all_goals
                go_wp2_with fail
                go_quiet ((go_at_call 28; exact quiet_left (HQ2.out _)))
                go_wp2
                go_roundw
                case rel => exact ⟨j + 1, _, by omega, by go_num, by rw [HON.out, HS.out]; rfl, HREL.out _⟩
                case measure => simp [intOf]; omega
            · have f1 : ((x : Int) != (k : Int)) = true := by simp; omega
              have f2 : (x != k) = true := by simp [hxk]
              rw [f2] at HS
              clear hxk f2
              cases ob <;> cases q2
              all_goals
                go_wp2_with fail
                go_quiet ((go_at_call 28; exact quiet_left (HQ2.out _)))
                go_wp2
                go_roundw
                case rel => exact ⟨j + 1, _, by omega, by go_num, by rw [HON.out, HS.out]; rfl, HREL.out _⟩
                case measure => simp [intOf]; omega
          · obtain rfl : j = R.length := by omega
            have g1 : ¬ (R.length : Int) < (R.length : Int) := by omega
            rw [List.take_length]
            obtain ⟨ob, hob⟩ : ∃ q, oth rows k v R = q := ⟨_, rfl⟩
            rw [hob] at HE ⊢
            clear hob
            cases ob
            · have HE2 : Hid (c2 = c1 + 1) := Lib.hid (by rw [HE.out]; rfl)
              go_wp2
              go_roundw
              case rel => exact ⟨t + 1, m3, by omega, by go_num, by rw [HC2.out, HE2.out]; go_num, by first | rfl | exact HWR3.out⟩
              case measure => simp [intOf]; omega
            · have HE2 : Hid (c2 = c1) := Lib.hid (by rw [HE.out]; rfl)
              go_wp2
              go_roundw
              case rel => exact ⟨t + 1, m3, by omega, by go_num, by rw [HC2.out, HE2.out], by first | rfl | exact HWR3.out⟩
              case measure => simp [intOf]; omega
    · obtain rfl : t = O.length := by omega
      have h1 : ¬ (O.length : Int) < (O.length : Int) := by omega
      have HE : Hid (((O.take O.length).filter (alP rows R k)).length = alR rows R k O) := Lib.hid (by rw [List.take_length]; rfl)
      rw [HE.out]
      go_wp2
      go_ret
      exact ⟨rfl, m, by first | rfl | exact HWR.out⟩
end Go.Proofs.Ytjohdkcgodaeiaa
