/- Contract of the law's examples of layer 4 (cnt), over the translation. -/
import Derived.Test.YtjnabmchejdhpaaFni
namespace Go.Proofs.Ytjnabmchejdhpaa
open Go.RowKit Go.PlainAid

def exS : ByteArray := ⟨#[52, 50, 57, 52, 57, 54, 55, 50, 57, 54]⟩
def exB : List Int := [49, 56, 52, 52, 54, 55, 52, 52, 48, 55, 51, 55, 48, 57, 53, 53, 49, 54, 49, 54]
theorem exS_val : valB exS exS.size = 4294967296 := by kernel_rfl
theorem exS_dec : Dec exS := by
  refine ⟨fun i hi => ?_, by decide +kernel, by decide +kernel⟩
  have h : i < 10 := hi
  rcases i with _ | _ | _ | _ | _ | _ | _ | _ | _ | _ | i
  all_goals first | (exfalso; omega) | decide +kernel
theorem exB_txt : txt 18446744073709551616 = ⟨#[49, 56, 52, 52, 54, 55, 52, 52, 48, 55, 51, 55, 48, 57, 53, 53, 49, 54, 49, 54]⟩ := by
  have h := (digs_valL 20 exB rfl ⟨by decide +kernel, by decide +kernel, by decide +kernel⟩).1
  have e : (valL exB).toNat = 18446744073709551616 := by decide +kernel
  rw [e] at h
  unfold txt
  rw [h]
  rfl
theorem two_digits {l : List Int} (hD : Dig l) (hn : nrm l = true) (h : val l = 4294967296) : l = [0, 1] :=
  nrm_inj hD (Dig.cons (by omega) (by omega) (Dig.cons (by omega) (by omega) Dig.nil)) hn rfl h
theorem ex_parse (w : World) : Calls Try.prog 25 #[.string ⟨#[52, 50, 57, 52, 57, 54, 55, 50, 57, 54]⟩] w fun e w' => ∃ A c, e = .returned (.tuple #[.slice A 2 c, .int .i64 0]) ∧ Nm w' A c [0, 1] ∧ Below w.heap.size w w' := by
  refine (cnt_Parse_ok exS w (by decide +kernel) exS_dec).mono ?_
  rintro e w' ⟨v, rfl, hR⟩
  obtain ⟨A, c, l, e, hN, hn, hv, _, hb⟩ := hR.nm
  injection e with e
  subst e
  obtain rfl := two_digits hN.dig hn (by rw [hv, exS_val])
  exact ⟨A, c, rfl, hN, hb⟩
theorem of_nm (n : Int) (w : World) (h0 : 0 ≤ n) (h1 : n ≤ 18446744073709551615) : Calls Try.prog 29 #[.int .u64 n] w fun e w' => ∃ A c l, e = .returned (.slice A l.length c) ∧ Nm w' A c l ∧ val l = n ∧ l.length ≤ 2 ∧ Below w.heap.size w w' := by
  refine (cnt_Of n w h0 h1).mono ?_
  rintro e w' hR
  obtain ⟨A, c, l, rfl, hN, hn, hv, hl, hb⟩ := hR.nm
  exact ⟨A, c, l, rfl, hN, hv, hl, hb⟩
theorem mul_nm {w : World} {A B : Option Addr} {ca cb : Nat} {a b : List Int} (hA : Nm w A ca a) (hB : Nm w B cb b) (hal : a.length ≤ 100000000) (hbl : b.length ≤ 100000000) :
    Calls Try.prog 21 #[.slice A a.length ca, .slice B b.length cb] w fun e w' => ∃ D c l, e = .returned (.slice D l.length c) ∧ Nm w' D c l ∧ nrm l = true ∧ val l = val a * val b ∧ l.length ≤ a.length + b.length ∧ Below w.heap.size w w' := by
  refine (cnt_Mul A B ca cb a b w hA.row hB.row hA.dig hB.dig hal hbl).mono ?_
  rintro e w' hR
  exact hR.nm
theorem text_nm {w : World} {A : Option Addr} {ca : Nat} {a : List Int} (hA : Nm w A ca a) (hal : a.length ≤ 100) :
    Calls Try.prog 27 #[.slice A a.length ca] w fun e w' => e = .returned (.string (txt (val a).toNat)) ∧ Below w.heap.size w w' := by
  refine cnt_Text A ca a w 1000 hA.row hA.nil hA.dig (by omega) hA.cap hA.max (by omega) (by omega) ?_
  have h1 := val_hi hA.dig
  have h2 := pw_mono hal
  have h3 : pw 100 < ((10 ^ 1000 : Nat) : Int) := by decide +kernel
  omega
theorem sub_ex {w : World} {A B : Option Addr} {ca cb : Nat} {a b : List Int} (hA : Nm w A ca a) (hB : Nm w B cb b) (hal : a.length ≤ 1000000) (hbl : b.length ≤ 1000000) (hlt : val a < val b) :
    Calls Try.prog 12 #[.slice A a.length ca, .slice B b.length cb] w fun e w' => e = .returned (.tuple #[.slice none 0 0, .bool false]) ∧ Below w.heap.size w w' :=
  cnt_Sub_no A B ca cb a b w hA.row hB.row hA.dig hB.dig (by omega) (by omega) hA.cap hB.cap hA.max hB.max hlt

set_option maxHeartbeats 4000000 in
theorem law_lives (w : World) : Calls Try.prog 8 #[] w fun e w' => e = .returned (.bool true) ∧ Below w.heap.size w w' := by
  go_enter Try.func8, Try.ntmps8
  go_upto_region 3 with (first | (go_at_call 25; refine (ex_parse _).mono ?_; rintro e w1 ⟨A1, c1, rfl, n1, hb1⟩; have N1 := Lib.hid n1; clear n1) | (go_at_call 12; refine (sub_ex (N2.out.step hb3) N3.out (by omega) (by omega) (by omega)).mono ?_; rintro e w4 ⟨rfl, hb4⟩) | (go_at_call 29; first | (refine (of_nm 2 w2 (by omega) (by omega)).mono ?_; rintro e w3 ⟨A3, c3, l3, rfl, n3, v3, m3, hb3⟩; have N3 := Lib.hid n3; clear n3) | (refine (of_nm 1 w1 (by omega) (by omega)).mono ?_; rintro e w2 ⟨A2, c2, l2, rfl, n2, v2, m2, hb2⟩; have N2 := Lib.hid n2; clear n2)))
  have hbw : Below w.heap.size w w4 := step2 (step2 (step2 hb1 hb2) hb3) hb4
  have N4 : Hid (Nm w4 A1 c1 [0, 1]) := Lib.hid (((N1.out.step hb2).step hb3).step hb4)
  obtain ⟨b, o, rfl, _, hc⟩ := N4.out.row (by simp)
  have e0 : w4.cell? ⟨b, o, none⟩ = some (.int .u32 0) := hc 0 (by simp)
  have e1 : w4.cell? ⟨b, o + 1, none⟩ = some (.int .u32 1) := hc 1 (by simp)
  have HM := Lib.hid (mul_nm N4.out N4.out (by simp) (by simp))
  clear hc
  go_wp2_with (first | (go_at_call 21; refine HM.out.mono ?_; rintro e w5 ⟨A5, c5, l5, rfl, n5, _, v5, m5, hb5⟩; have N5 := Lib.hid n5; have V5 := Lib.hid v5; clear n5 v5) | (go_at_call 27; refine (text_nm N5.out (by simp at m5; omega)).mono ?_; rintro e w6 ⟨rfl, hb6⟩; rw [show (val l5).toNat = 18446744073709551616 by rw [V5.out]; rfl, exB_txt]))
  go_ret
  exact ⟨by simp, step2 (step2 hbw hb5) hb6⟩
end Go.Proofs.Ytjnabmchejdhpaa
