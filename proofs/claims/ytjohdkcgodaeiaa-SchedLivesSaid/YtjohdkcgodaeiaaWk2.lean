/- The walk of SchedLives; layer 42 (sched). -/
import Derived.Test.YtjohdkcgodaeiaaQ9
import Derived.Test.YtjohdkcgodaeiaaQ7
import Derived.Test.YtjohdkcgodaeiaaOp2
namespace Go.Proofs.Ytjohdkcgodaeiaa
open Go.RowKit

set_option maxRecDepth 100000 in
set_option maxHeartbeats 8000000 in
theorem schedLives_walk (A : Option Addr) (ca : Nat) (rows : List Rw) (AO : Option Addr) (co : Nat) (o : List Int) (AL : Option Addr) (cl : Nat) (T : List St) (w : World) (hP : RR w w.heap.size A rows) (hr : rows.length ≤ maxLen)
    (hv : ∀ i, i < rows.length → (pr rows i).length ≤ maxLen ∧ ∀ v ∈ pr rows i, In64 v) (hO : RI w w.heap.size AO o) (hlo : o.length ≤ maxLen) (_hvo : ∀ v ∈ o, In64 v)
    (hT : StP w AL T) (hlT : T.length ≤ maxLen) (hvT : ∀ k, k < T.length → (stAt T k).2.2.2.length ≤ maxLen ∧ ∀ v ∈ (stAt T k).2.2.2, In64 v) :
    Calls Try.prog 4 #[.slice A rows.length ca, .slice AO o.length co, .slice AL T.length cl] w fun e w' => e = .returned (.bool true) ∧ Below w.heap.size w w' := by
  have HF := Lib.hid (law_few A AO AL ca co cl rows o T w hP hT hr hlo hlT (fun j hj => (hv j hj).1) (fun k hk => (hvT k hk).1))
  have HLV : Hid (∀ w', Below w.heap.size w w' → Calls Try.prog 7 #[] w' fun e w'' => e = .returned (.bool true) ∧ Below w.heap.size w w'') := Lib.hid (fun w' hb => (law_lives w').mono fun e w'' ⟨he, hb2⟩ => ⟨he, hb.trans (hb2.mono hb.size)⟩)
  have HALL : Hid (FewP rows o T → (∀ w', Below w.heap.size w w' → Calls Try.prog 11 #[.slice AL T.length cl] w' (StpR w' T)) ∧
      (∀ w', Below w.heap.size w w' → Calls Try.prog 13 #[.slice A rows.length ca, .slice AO o.length co, .slice AL T.length cl] w' (CompR w' (PR rows o (T.map stK)))) ∧
      (∀ w', Below w.heap.size w w' → Calls Try.prog 15 #[.slice A rows.length ca, .slice AL T.length cl] w' (OwnR w' (ll rows (T.map stK) T.length))) ∧
      (∀ w', Below w.heap.size w w' → Calls Try.prog 17 #[.slice A rows.length ca, .slice AL T.length cl] w' fun e w'' => e = .returned (.int .i64 ((mx rows (T.map stK) T.length : Nat) : Int)) ∧ Below w'.heap.size w' w'') ∧
      (∀ A2 c2 w', Below w.heap.size w w' → StP w' A2 T → Calls Try.prog 12 #[.slice A rows.length ca, .slice AO o.length co, .slice A2 T.length c2] w' (CompR w' (PR rows o (T.map stK)))) ∧
      (∀ A2 c2 w', Below w.heap.size w w' → StP w' A2 T → Calls Try.prog 14 #[.slice A rows.length ca, .slice AO o.length co, .slice A2 T.length c2] w' (OwnR w' (ll rows (T.map stK) T.length))) ∧
      (∀ A2 c2 w', Below w.heap.size w w' → StP w' A2 T → Calls Try.prog 16 #[.slice A rows.length ca, .slice AO o.length co, .slice A2 T.length c2] w' fun e w'' => e = .returned (.int .i64 ((mx rows (T.map stK) T.length : Nat) : Int)) ∧ Below w'.heap.size w' w'')) := Lib.hid (fun hf => by
    obtain ⟨f1, f2, f3, f4, f5⟩ := hf
    have g1 : ∀ j, j < rows.length → (pr rows j).length ≤ 1000 := fun j hj => by have := f1 j hj; omega
    have g2 : ∀ k, k < T.length → (stAt T k).2.2.2.length ≤ 1000 := fun k hk => by have := f2 k hk; omega
    have g3 : ∀ j, j < rows.length → ∀ v ∈ pr rows j, In64 v := fun j hj => (hv j hj).2
    have g4 : ∀ k, k < T.length → ∀ v ∈ (stAt T k).2.2.2, In64 v := fun k hk => (hvT k hk).2
    refine ⟨fun w' hb => l_own AL cl T w' (hT.step hb) (by omega), fun w' hb => ?_, fun w' hb => r_Live A AL ca cl rows T w' (hP.step hb) (hT.step hb) (by omega) (by omega) g1 g2, fun w' hb => r_Widest A AL ca cl rows T w' (hP.step hb) (hT.step hb) (by omega) (by omega) g1 g2, fun A2 c2 w' hb hs => ?_, fun A2 c2 w' hb hs => ?_, fun A2 c2 w' hb hs => ?_⟩
    · rw [pr_qr]
      exact r_Right A AO AL ca co cl rows o T w' (hP.step hb) (hO.step hb) (hT.step hb) (by omega) (by omega) (by omega) g1 g2
    · exact p_Right A AO A2 ca co c2 rows o T w' (hP.step hb) (hO.step hb) hs (by omega) (by omega) (by omega) g1 g2 g3 g4
    · exact p_Live A AO A2 ca co c2 rows o.length T w' (hP.step hb) hs (by omega) (by omega) g1 g2 g3 g4
    · exact p_Widest A AO A2 ca co c2 rows o.length T w' (hP.step hb) hs (by omega) (by omega) g1 g2 g3 g4)
  obtain ⟨K, hK⟩ : ∃ K, T.map stK = K := ⟨_, rfl⟩
  rw [hK] at HALL
  obtain ⟨LL, hLL⟩ : ∃ L, ll rows K T.length = L := ⟨_, rfl⟩
  have hLl : LL.length = T.length := by rw [← hLL, ll_len]
  obtain ⟨M, hM⟩ : ∃ M, mx rows K T.length = M := ⟨_, rfl⟩
  rw [hLL, hM] at HALL
  obtain ⟨P, hPe⟩ : ∃ P, PR rows o K = P := ⟨_, rfl⟩
  rw [hPe] at HALL
  have HLL := Lib.hid hLl
  clear hP hr hv hO hlo _hvo hT hlT hvT hK hLL hM hPe hLl
  go_enter Try.func4, Try.ntmps4
  go_upto_region 2 with (go_at_call 6; refine HF.out.mono ?_; rintro e w1 ⟨q, rfl, hq, hb1⟩; have HQ := Lib.hid hq; have HB1 := Lib.hid hb1; clear hq hb1)
  · go_wp2_with (go_at_call 7; refine (HLV.out _ HB1.out).mono ?_; rintro e w2 ⟨rfl, hb2⟩; have HB2 := Lib.hid hb2; clear hb2)
    go_ret
    exact ⟨rfl, HB2.out⟩
  · have hqt : q = true := by cases q <;> simp_all
    have hfw := HQ.out hqt
    have hTl := hfw.2.2.2.2
    obtain ⟨h11, h13, h15, h17, h12, h14, h16⟩ := HALL.out hfw
    have H11 := Lib.hid h11
    have H13 := Lib.hid h13
    have H15 := Lib.hid h15
    have H17 := Lib.hid h17
    have H12 := Lib.hid h12
    have H14 := Lib.hid h14
    have H16 := Lib.hid h16
    have hLb : LL.length ≤ 100 := by rw [HLL.out]; omega
    have HSM : Hid (∀ wx Aa Ab c1 c2, RI wx wx.heap.size Aa LL → RI wx wx.heap.size Ab LL → Calls Try.prog 10 #[.slice Aa LL.length c1, .slice Ab LL.length c2] wx fun e w'' => e = .returned (.bool true) ∧ Below wx.heap.size wx w'') := Lib.hid (fun wx Aa Ab c1 c2 h1 h2 => (law_same Aa Ab c1 c2 LL LL wx h1 h2 (by omega) (by omega)).mono fun e w'' ⟨he, hb'⟩ => ⟨by rw [he]; simp, hb'⟩)
    clear hqt hfw h11 h13 h15 h17 h12 h14 h16 HALL HQ HF
    go_wp2_with (first
      | (go_at_call 7; have _ := HB9; (with_reducible refine (HLV.out _ HB9.out).mono ?_); rintro e w10 ⟨rfl, hb10⟩; have HB10 := Lib.hid hb10; clear hb10)
      | (go_at_call 17; have _ := HB8; (with_reducible refine (H17.out _ HB8.out).mono ?_); rintro e w9 ⟨rfl, hb9⟩; have HB9 := Lib.hid (HB8.out.trans (hb9.mono HB8.out.size)); clear hb9)
      | (go_at_call 16; have _ := HB7; (with_reducible refine (H16.out _ _ _ HB7.out HS7.out).mono ?_); rintro e w8 ⟨rfl, hb8⟩; have HB8 := Lib.hid (HB7.out.trans (hb8.mono HB7.out.size)); clear hb8)
      | (go_at_call 10; have _ := HB6; (with_reducible refine (HSM.out _ _ _ _ _ HR5.out HR6.out).mono ?_); rintro e w7 ⟨rfl, hb7⟩; have HB7 := Lib.hid (HB6.out.trans (hb7.mono HB6.out.size)); have HS7 := Lib.hid (HS6.out.step hb7); clear hb7)
      | (go_at_call 15; have _ := HB5; (with_reducible refine (H15.out _ HB5.out).mono ?_); rintro e w6 ⟨v6, rfl, ho6, hb6⟩; obtain ⟨A6, c6, rfl, hr6, _⟩ := ho6.form; have HR6 := Lib.hid hr6; have HR5 := Lib.hid (HR50.out.step hb6); have HB6 := Lib.hid (HB5.out.trans (hb6.mono HB5.out.size)); have HS6 := Lib.hid (HS5.out.step hb6); clear ho6 hr6 hb6)
      | (go_at_call 14; have _ := HB4; (with_reducible refine (H14.out _ _ _ HB4.out HS4.out).mono ?_); rintro e w5 ⟨v5, rfl, ho5, hb5⟩; obtain ⟨A5, c5, rfl, hr5, _⟩ := ho5.form; have HR50 := Lib.hid hr5; have HB5 := Lib.hid (HB4.out.trans (hb5.mono HB4.out.size)); have HS5 := Lib.hid (HS4.out.step hb5); clear ho5 hr5 hb5)
      | (go_at_call 13; have _ := HB3; (with_reducible refine (H13.out _ HB3.out).mono ?_); rintro e w4 ⟨qb, rfl, hqb, hb4⟩; have hqe : qb = qa := (by have h := HQA.out; cases qa <;> cases qb <;> simp_all); subst hqe; have HB4 := Lib.hid (HB3.out.trans (hb4.mono HB3.out.size)); have HS4 := Lib.hid (HS3.out.step hb4); clear hqb hb4)
      | (go_at_call 12; have _ := HB2; (with_reducible refine (H12.out _ _ _ HB2.out HS2.out).mono ?_); rintro e w3 ⟨qa, rfl, hqa, hb3⟩; have HQA := Lib.hid hqa; have HB3 := Lib.hid (HB2.out.trans (hb3.mono HB2.out.size)); have HS3 := Lib.hid (HS2.out.step hb3); clear hqa hb3)
      | (go_at_call 11; (with_reducible refine (H11.out _ HB1.out).mono ?_); rintro e w2 ⟨A2, c2, rfl, hs2, hb2⟩; have HS2 := Lib.hid hs2; have HB2 := Lib.hid (HB1.out.trans (hb2.mono HB1.out.size)); clear hs2 hb2))
    go_ret
    exact ⟨rfl, HB10.out⟩
end Go.Proofs.Ytjohdkcgodaeiaa
