/- The laws' own functions lives and parts; layer 7 (ptext). -/
import Derived.Test.YtipapemcedkinaaW4
import Derived.Test.YtipapemcedkinaaPh
namespace Go.Proofs.Ytipapemcedkinaa
open Go.RowKit Go.PlainAid

def tL : Ex := .mk 10 0 [.mk 3 0 [], .mk 4 0 [.mk 3 12 []], .mk 1 0 []]
def sL : ByteArray := ⟨#[40, 63, 32, 118, 48, 32, 40, 33, 32, 118, 49, 50, 41, 32, 116, 114, 117, 101, 41]⟩
def sB : ByteArray := ⟨#[40, 38, 32, 118, 48, 49, 41]⟩
theorem parse_sL : parsR sL = (tL, 19, 0) := by kernel_rfl
theorem parse_sB : parsR sB = (ex0, 5, 3) := by kernel_rfl
theorem text_0 : textF 0 = [48] := by unfold textF digs; simp
theorem text_12 : textF 12 = [49, 50] := by
  have h1 : digs 1 = [49] := by unfold digs; simp
  unfold textF
  rw [if_neg (by omega)]
  show digs 12 = _
  unfold digs
  simp [h1]
theorem show_tL : shwR tL = ([40, 63, 32, 118, 48, 32, 40, 33, 32, 118, 49, 50, 41, 32, 116, 114, 117, 101, 41], 0) := by
  have h1 : chkE tL = 0 := by kernel_rfl
  unfold shwR
  rw [if_pos h1]
  simp [tL, txt, txtL, text_0, text_12, sgn]
theorem str_sL : strOfNums [40, 63, 32, 118, 48, 32, 40, 33, 32, 118, 49, 50, 41, 32, 116, 114, 117, 101, 41] = sL := rfl
mutual
/-- How many parts, counted to one more than m at least. -/
def prt : Ex → Int → Int | .mk _ _ ks, m => prtL ks m 1
def prtL : List Ex → Int → Int → Int
  | [], _, n => n
  | t :: r, m, n => if n ≤ m then prtL r m (n + prt t (m - n)) else n
end
theorem prt_eq (t : Ex) (m : Int) : prt t m = prtL t.ks m 1 := by cases t; rfl
theorem prtL_step {l : List Ex} {i : Nat} (h : i < l.length) (m n : Int) : prtL (l.drop i) m n = if n ≤ m then prtL (l.drop (i + 1)) m (n + prt (kd l i) (m - n)) else n := by rw [kd_drop h]; rfl
mutual
theorem prt_in : ∀ (t : Ex) (m : Int), 1 ≤ prt t m ∧ prt t m ≤ t.sz ∧ (prt t m ≤ m → prt t m = t.sz)
  | .mk o v ks, m => by
    have e : (Ex.mk o v ks).sz = 1 + szL ks := rfl
    have h := prtL_in ks m 1
    rw [prt, e]
    exact ⟨by omega, by omega, fun hm => by have := h.2.2 hm; omega⟩
theorem prtL_in : ∀ (l : List Ex) (m n : Int), n ≤ prtL l m n ∧ prtL l m n ≤ n + szL l ∧ (prtL l m n ≤ m → prtL l m n = n + szL l)
  | [], m, n => by rw [prtL]; simp [szL]
  | t :: r, m, n => by
    have e : szL (t :: r) = t.sz + szL r := rfl
    rw [prtL, e]
    by_cases h : n ≤ m
    · rw [if_pos h]
      have h1 := prt_in t (m - n)
      have h2 := prtL_in r m (n + prt t (m - n))
      refine ⟨by omega, by omega, fun hm => ?_⟩
      have h3 := h2.2.2 hm
      have h4 := h1.2.2 (by omega)
      omega
    · rw [if_neg h]
      exact ⟨by omega, by omega, fun hm => by omega⟩
end
set_option maxRecDepth 100000 in
set_option maxHeartbeats 4000000 in
theorem l_parts : ∀ n (t : Ex), t.sz ≤ n → n ≤ 100000000 → ∀ (A : Option Addr) (c : Nat) (m : Int) (w : World), 0 ≤ m → m ≤ 1000 → Rep w.heap.size w A t →
    Calls Try.prog 11 #[exV t A c, .int .i64 m] w fun e w' => e = .returned (.int .i64 (prt t m)) ∧ Below w.heap.size w w' := by
  intro n
  induction n with
  | zero => intro t h; have := sz_eq t; omega
  | succ n ih =>
    intro t ht hnb A c m w hm0 hm1 hR
    obtain ⟨W0, hW0⟩ : ∃ W, w.alloc (.cells (exC t A c) 25) = W := ⟨_, rfl⟩
    have hb0 : Below w.heap.size w W0 := by rw [← hW0]; exact balw _ _
    have hbx : Blk W0 w.heap.size 25 (exC t A c) := by rw [← hW0]; exact Blk.new _ _ _
    have hW1 : w.alloc (.cells #[.int .i64 t.op, .int .i64 t.vr, .slice A t.ks.length c] 25) = W0 := hW0
    have HB0 := Lib.hid hb0
    have HBX := Lib.hid hbx
    have HR := Lib.hid hR
    have hlk := szL_len t.ks
    have hsz := sz_eq t
    have HIH : Hid (∀ i, i < t.ks.length → ∀ (A : Option Addr) (c : Nat) (m : Int) (w : World), 0 ≤ m → m ≤ 1000 → Rep w.heap.size w A (kd t.ks i) → Calls Try.prog 11 #[exV (kd t.ks i) A c, .int .i64 m] w fun e w' => e = .returned (.int .i64 (prt (kd t.ks i) m)) ∧ Below w.heap.size w w') := Lib.hid (fun i hi A c m w h1 h2 h3 => ih (kd t.ks i) (by have := kd_sz hi; omega) (by omega) A c m w h1 h2 h3)
    obtain ⟨R, hRR⟩ : ∃ R, prt t m = R := ⟨_, rfl⟩
    have HRR : Hid (prtL (t.ks.drop 0) m 1 = R) := Lib.hid (by rw [← hRR, prt_eq]; rfl)
    have hkl : t.ks.length ≤ 100000000 := by omega
    have HTS : Hid (t.sz ≤ 100000000) := Lib.hid (by omega)
    rw [hRR]
    clear hW0 hb0 hbx hR hRR ih ht hlk hsz
    go_enter Try.func11, Try.ntmps11
    go_wp2
    go_loopw [5, 6] (fun r5 r6 wr => ∃ (k : Nat) (q : Int), k ≤ t.ks.length ∧ r6 = .int .i64 (k : Int) ∧ r5 = .int .i64 q ∧ 1 ≤ q ∧ q ≤ 200000000 ∧ Hid (prtL (t.ks.drop k) m q = R) ∧ Hid (Below W0.heap.size W0 wr)) (fun _ r6 _ => t.ks.length - (intOf r6).toNat)
    case atStart => exact ⟨0, 1, Nat.zero_le _, rfl, rfl, by omega, by omega, HRR, Lib.hid (Below.refl _ _)⟩
    case round =>
      obtain ⟨k, q, hk, rfl, rfl, hq1, hq2, HV, HB⟩ := hrel
      have hbxr := HBX.out.below HB.out HBX.out.lt
      have z2 := hbxr.cell 2
      have z3 := hbxr.lt
      clear hbxr HRR
      by_cases hlt : k < t.ks.length
      · have l1 : (k : Int) < (t.ks.length : Int) := by omega
        have hst := prtL_step hlt m q
        rw [HV.out] at hst
        clear HV
        by_cases hqm : q ≤ m
        · rw [if_pos hqm] at hst
          have l0 : (0 : Int) ≤ (k : Int) := by omega
          obtain ⟨g, f0, rfl, hg, hc⟩ := HR.out.out (by omega)
          obtain ⟨ka, kc, c0, c1, c2, hRk⟩ := hc k hlt
          have HBW := Lib.hid (HB0.out.trans (HB.out.mono HB0.out.size))
          have d0 := (HBW.out.cell (p := ⟨g, f0 + k * 3, none⟩) hg).trans c0
          have d1 := (HBW.out.cell (p := ⟨g, f0 + k * 3 + 1, none⟩) hg).trans c1
          have d2 := (HBW.out.cell (p := ⟨g, f0 + k * 3 + 2, none⟩) hg).trans c2
          have HI2 := Lib.hid (HIH.out k hlt ka kc (m - q) wr (by omega) (by omega) (hRk.step HBW.out))
          have hin := prt_in (kd t.ks k) (m - q)
          obtain ⟨u, hu⟩ : ∃ u, kd t.ks k = u := ⟨_, rfl⟩
          have husz : u.sz ≤ 100000000 := by rw [← hu]; have := kd_sz hlt; have := HTS.out; omega
          rw [hu] at d0 d1 d2 HI2 hst hin
          obtain ⟨y, hy⟩ : ∃ y, prt u (m - q) = y := ⟨_, rfl⟩
          rw [hy] at HI2 hst hin
          have hy1 := hin.1
          have hy2 : y ≤ 100000000 := by omega
          have HS := Lib.hid hst.symm
          clear hst hin hy hu c0 c1 c2 hRk hc
          go_wp2_with (go_at_call 11; (refine HI2.out.mono ?_); rintro e w5 ⟨rfl, hb5⟩; have HB5 := Lib.hid (HB.out.trans (hb5.mono HB.out.size)); clear hb5)
          go_roundw
          case rel => exact ⟨k + 1, q + y, by omega, by go_num, rfl, by omega, by omega, HS, HB5⟩
          case measure => simp [intOf]; omega
        · rw [if_neg hqm] at hst
          have HS := Lib.hid hst
          clear hst
          go_wp2
          go_ret
          exact ⟨by rw [HS.out]; rfl, HB0.out.trans (HB.out.mono HB0.out.size)⟩
      · obtain rfl : k = t.ks.length := by omega
        have l1 : ¬ (t.ks.length : Int) < (t.ks.length : Int) := by omega
        have hV := HV.out
        rw [List.drop_length, prtL] at hV
        have HS := Lib.hid hV.symm
        clear hV HV
        go_wp2
        go_ret
        exact ⟨by rw [HS.out]; rfl, HB0.out.trans (HB.out.mono HB0.out.size)⟩
set_option maxRecDepth 100000 in
set_option maxHeartbeats 8000000 in
theorem l_lives (w : World) : Calls Try.prog 7 #[] w fun e w' => e = .returned (.bool true) ∧ Below w.heap.size w w' := by
  have HP := Lib.hid (fun w => p_Parse sL w (by show 19 ≤ _; omega))
  have HQ := Lib.hid (fun w => p_Parse sB w (by show 7 ≤ _; omega))
  rw [parse_sL] at HP
  rw [parse_sB] at HQ
  have HS := Lib.hid (fun A c w (h : Rep w.heap.size w A tL) => p_Show tL A c w (by decide) h)
  rw [show_tL] at HS
  have HSS := Lib.hid str_sL
  have HKD : Hid (∀ (w : World) A, Rep w.heap.size w A tL → ∃ b f, A = some ⟨b, f, none⟩ ∧ w.cell? ⟨b, f + 3, none⟩ = some (.int .i64 4)) := Lib.hid (fun w A h => by
    obtain ⟨b, f, e, hb, hc⟩ := h.out (by decide)
    obtain ⟨ka, kc, c0, _⟩ := hc 1 (by decide)
    exact ⟨b, f, e, c0⟩)
  have e3 : tL.ks.length = 3 := rfl
  have e10 : tL.op = 10 := rfl
  have ev0 : tL.vr = 0 := rfl
  go_enter Try.func7, Try.ntmps7
  go_upto_region 2 with (go_at_call 8; (refine (HP.out w).mono ?_); rintro e w1 ⟨A, c, rfl, hb1, hR1⟩; have HB1 := Lib.hid hb1; have HR1 := Lib.hid hR1; clear hb1 hR1)
  obtain ⟨g, f, rfl, hk1⟩ := HKD.out _ _ HR1.out
  obtain ⟨W2, hW2⟩ : ∃ W, w1.alloc (.cells (exC tL (some ⟨g, f, none⟩) c) 25) = W := ⟨_, rfl⟩
  have hb2 : Below w1.heap.size w1 W2 := by rw [← hW2]; exact balw _ _
  have hbx : Blk W2 w1.heap.size 25 #[.int .i64 10, .int .i64 0, .slice (some ⟨g, f, none⟩) 3 c] := by rw [← hW2]; exact Blk.new _ _ _
  have hg : g < w1.heap.size := cell_under hk1
  have hk2 := (hb2.cell (p := ⟨g, f + 3, none⟩) hg).trans hk1
  have HB2 := Lib.hid (HB1.out.trans (hb2.mono HB1.out.size))
  have HR2 := Lib.hid (HR1.out.step hb2)
  obtain ⟨z0, z1, z2, z3, _, _, _⟩ := box_cells hbx
  have hsc : Calls Try.prog 12 #[.agg #[.int .i64 10, .int .i64 0, .slice (some ⟨g, f, none⟩) 3 c]] W2 (ShP ([40, 63, 32, 118, 48, 32, 40, 33, 32, 118, 49, 50, 41, 32, 116, 114, 117, 101, 41], 0) W2) := HS.out _ c W2 HR2.out
  unfold ShP at hsc
  have HSC := Lib.hid hsc
  clear hsc
  simp only [] at HSC
  rw [HSS.out] at HSC
  have hw2 : w1.alloc (.cells #[.int .i64 10, .int .i64 0, .slice (some ⟨g, f, none⟩) 3 c] 25) = W2 := hW2
  have heq : (sL.toList == [40, 63, 32, 118, 48, 32, 40, 33, 32, 118, 49, 50, 41, 32, 116, 114, 117, 101, 41]) = true := by kernel_rfl
  clear hk1 hW2 hbx hb2
  go_upto_region 5 with (go_at_call 12; (refine HSC.out.mono ?_); rintro e w3 ⟨rfl, hb3⟩; have HB3 := Lib.hid (HB2.out.trans (hb3.mono HB2.out.size)); clear hb3)
  go_wp2_with (go_at_call 8; (refine (HQ.out _).mono ?_); rintro e w4 ⟨A4, c4, rfl, hb4, hR4⟩; have HB4 := Lib.hid (HB3.out.trans (hb4.mono HB3.out.size)); clear hb4 hR4)
  go_ret
  exact ⟨rfl, HB4.out.trans ((balw w4 _).mono HB4.out.size)⟩
end Go.Proofs.Ytipapemcedkinaa
