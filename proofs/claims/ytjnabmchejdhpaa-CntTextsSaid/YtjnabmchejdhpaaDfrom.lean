/- Contract of the specification's From of layer 4 (cnt), over the translation. -/
import Derived.Test.YtjnabmchejdhpaaDtim
import Derived.Test.YtjnabmchejdhpaaDof
import Derived.Deep.RegionHeld3
import Derived.IntWalk
namespace Go.Proofs.Ytjnabmchejdhpaa
open Go.RowKit

theorem ResT.weak {w w' : World} {x : Int} {M M2 : Nat} {e : Ending} (h : ResT w w' x M e) (hM : M ≤ M2) : ResT w w' x M2 e := h.from (Below.refl _ _) hM
theorem p5 : Hid ((65536 : Int) ≤ pwT 5) := Lib.hid (by decide +kernel)
set_option maxHeartbeats 4000000 in
theorem ref_From (A : Option Addr) (ca : Nat) (l : List Int) (w : World) (hA : Nm w A ca l) (hl : l.length ≤ 1000000) :
    Calls Try.prog 10 #[.slice A l.length ca] w fun e w' => ResT w w' (val l) (20 + 11 * l.length) e := by
  have HA := Lib.hid hA
  clear hA
  go_enter Try.func10, Try.ntmps10
  go_wp2
  go_loopw [3, 4] (fun v i wr => ∃ (k : Nat), k ≤ l.length ∧ i = .int .i64 ((k : Int) - 1) ∧ Hid (ResT w wr (val (l.drop k)) (20 + 11 * (l.length - k)) (.returned v)) ∧ Below w.heap.size w wr) (fun _ i _ => (intOf i + 1).toNat)
  case atStart => exact ⟨l.length, by omega, rfl, Lib.hid ⟨none, 0, [], rfl, ⟨RD.nil, DigT.nil, Nat.le_refl _, Nat.zero_le _, fun _ => rfl⟩, rfl, by rw [List.drop_length]; rfl, by simp, Below.refl _ _⟩, Below.refl _ _⟩
  case round =>
    obtain ⟨k, hk, rfl, HR, hb⟩ := hrel
    have hsz := hb.size
    rcases k with _ | k
    · have h0 : ¬ (0 : Int) ≤ ((0 : Nat) : Int) - 1 := by omega
      have HE := Lib.hid HR.out
      clear HR
      go_wp2
      go_ret
      have h := HE.out
      rw [List.drop_zero] at h
      exact h.weak (by omega)
    · obtain ⟨Ao, co, o, e0, hD, hn, hv, hlo, _⟩ := HR.out
      injection e0 with e0
      subst e0
      have HD := Lib.hid hD
      have HN := Lib.hid hn
      have HV := Lib.hid hv
      obtain ⟨b, f, rfl, hg1, hc1⟩ := HA.out.row (by omega)
      have e1 := (hb.cell (p := ⟨b, f + k, none⟩) hg1).trans (hc1 k (by omega))
      have hk' : (k : Int) < (l.length : Int) := by omega
      have ek : (((k + 1 : Nat) : Int) - 1) = (k : Int) := by omega
      have hd1 := HA.out.dig _ (li_mem (show k < l.length by omega))
      clear hD hn hv hc1 HR
      rw [ek]
      have hDd : Hid (Dn wr.drew Ao co o) := Lib.hid (HD.out.step (Below.refl _ _).drew)
      have e1d : wr.drew.cell? ⟨b, f + k, none⟩ = some (.int .u32 (li l k)) := e1
      have hbd : b < wr.drew.heap.size := by show b < wr.heap.size; omega
      have hbd0 : Below w.heap.size w wr.drew := hb.drew
      have hq1 : o.length ≤ 100000000 := by omega
      have HB1 : Hid (∀ n1, n1 ≤ o.length + 5 → n1 ≤ 100000000) := Lib.hid (fun n1 h => by omega)
      have HB2 : Hid (∀ n1 n2, n1 ≤ o.length + 5 → n2 ≤ n1 + 5 → n2 ≤ 20 + 11 * (l.length - (k + 1)) + 10) := Lib.hid (fun n1 n2 h1 h2 => by omega)
      have HB3 : Hid (∀ n1, n1 ≤ 20 → n1 ≤ 20 + 11 * (l.length - (k + 1)) + 10) := Lib.hid (fun n1 h => by omega)
      have HB4 : Hid (20 + 11 * (l.length - (k + 1)) + 10 ≤ 100000000) := Lib.hid (by omega)
      have hx0 : 0 ≤ li l k := by omega
      have hx1 : li l k ≤ 18446744073709551615 := by omega
      have hwr : IntKind.u64.wrap (li l k) = li l k := IntWalk.u64_in _ ⟨hx0, hx1⟩
      go_wp2_with fail
      go_region_held3 (fun wx => wx.cell? ⟨b, f + k, none⟩ = some (.int .u32 (li l k))) (first | assumption | go_keep) (first
        | (go_at_call 9; refine (ref_Add _ _ _ _ _ _ (20 + 11 * (l.length - (k + 1)) + 10) _ (HD2.out.step hb3) HD3.out (HB2.out _ _ hm1 hm2) (HB3.out _ hm3) HB4.out).mono ?_; rintro e w4 ⟨A4, c4, l4, rfl, hD4, hn4, hv4, hm4, hb4⟩; have HD4 := Lib.hid hD4; have HV4 := Lib.hid hv4; have HN4 := Lib.hid hn4; have e4d := (hb4.cell (p := ⟨b, f + k, none⟩) hbd3).trans e3d; clear hD4 hv4 hn4)
        | (go_at_call 30; refine (ref_Of (li l k) _ hx0 hx1).mono ?_; rintro e w3 ⟨A3, c3, l3, rfl, hD3, hn3, hv3, hm3, hb3⟩; have HD3 := Lib.hid hD3; have HV3 := Lib.hid hv3; have e3d := (hb3.cell (p := ⟨b, f + k, none⟩) hbd2).trans e2d; have hbd3 : b < w3.heap.size := Nat.lt_of_lt_of_le hbd2 hb3.size; clear hD3 hn3 hv3)
        | (go_at_call 35; refine (ref_Times _ _ _ 65536 5 _ HD1.out (HB1.out _ hm1) (by decide) (by decide) p5 (by decide)).mono ?_; rintro e w2 ⟨A2, c2, l2, rfl, hD2, hn2, hv2, hm2, hb2⟩; have HD2 := Lib.hid hD2; have HV2 := Lib.hid hv2; have e2d := (hb2.cell (p := ⟨b, f + k, none⟩) hbd1).trans e1d2; have hbd2 : b < w2.heap.size := Nat.lt_of_lt_of_le hbd1 hb2.size; clear hD2 hn2 hv2)
        | (go_at_call 35; refine (ref_Times _ _ _ 65536 5 _ hDd.out hq1 (by decide) (by decide) p5 (by decide)).mono ?_; rintro e w1 ⟨A1, c1, l1, rfl, hD1, hn1, hv1, hm1, hb1⟩; have HD1 := Lib.hid hD1; have HV1 := Lib.hid hv1; have e1d2 := (hb1.cell (p := ⟨b, f + k, none⟩) hbd).trans e1d; have hbd1 : b < w1.heap.size := Nat.lt_of_lt_of_le hbd hb1.size; clear hD1 hn1 hv1))
      clear hwr
      have hbe : Below w.heap.size w w4 := step2 (step2 (step2 (step2 hbd0 hb1) hb2) hb3) hb4
      have HVE : Hid (valT l4 = val (l.drop k)) := Lib.hid (by
        rw [HV4.out, HV3.out, HV2.out, HV1.out, HV.out, drop_cons' (show k < l.length by omega)]
        show _ = li l k + 4294967296 * val (l.drop (k + 1))
        omega)
      go_wp2
      go_roundw
      case rel => exact ⟨k, by omega, by go_num, Lib.hid ⟨A4, c4, l4, rfl, HD4.out, HN4.out, HVE.out, by omega, hbe⟩, hbe⟩
      case measure => simp [intOf]; try omega
end Go.Proofs.Ytjnabmchejdhpaa
