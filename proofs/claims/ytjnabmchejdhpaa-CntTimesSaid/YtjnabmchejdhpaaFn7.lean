/- Contract of Sub of layer 4 (cnt), over the translation. -/
import Derived.Test.YtjnabmchejdhpaaFn6
namespace Go.Proofs.Ytjnabmchejdhpaa
open Go.RowKit

theorem own_blk {w : World} {B g : Nat} {t : List Int} (h : Blk w g 62 (intRow t)) (hg : B ≤ g) (hm : t.length ≤ maxLen) : Own w B (.slice (some ⟨g, 0, none⟩) t.length t.length) t := by
  refine ⟨by simp, .inr ⟨g, t.length, intRow t, rfl, hg, h, Nat.le_refl _, hm, by unfold intRow; simp, ?_⟩⟩
  unfold intRow
  simp
  try exact List.take_of_length_le (by simp)
theorem cmpF_lt {x y : Int} (h : x < y) : cmpF x y = -1 := by unfold cmpF; rw [if_pos h]
theorem cmpF_ge {x y : Int} (h : y ≤ x) : ¬ cmpF x y < 0 := by unfold cmpF; rw [if_neg (by omega)]; split <;> omega
theorem sub_dig {x z : Int} (hx : 0 ≤ x) (hx2 : x < 4294967296) (hz : 0 ≤ z) (hz2 : z ≤ 4294967296) :
    ∃ C' : Int, 0 ≤ C' ∧ C' ≤ 1 ∧ bits BinOp.and IntKind.u64 (IntKind.u64.wrap (x - z) / 4294967296) 1 = C' ∧ IntKind.u64.wrap (x - z) % 4294967296 = x - z + C' * 4294967296 := by
  have key : ∀ n : Nat, n < 18446744073709551616 → bits BinOp.and IntKind.u64 (n : Int) 1 = ((n % 2 : Nat) : Int) := fun n hn => by
    have h := u64_and_nat n 1 (by omega) (by omega)
    have e1 : ((1 : Nat) : Int) = 1 := rfl
    rw [e1] at h
    rw [h, Nat.and_one_is_mod]
  rw [IntKind.wrap_u64]
  by_cases c : z ≤ x
  · have e : (x - z) % 18446744073709551616 = x - z := Int.emod_eq_of_lt (by omega) (by omega)
    rw [e]
    have e2 : (x - z) / 4294967296 = ((0 : Nat) : Int) := by omega
    rw [e2, key 0 (by omega)]
    exact ⟨0, by omega, by omega, rfl, by omega⟩
  · have e : (x - z) % 18446744073709551616 = x - z + 18446744073709551616 := by omega
    rw [e]
    have e2 : (x - z + 18446744073709551616) / 4294967296 = ((4294967295 : Nat) : Int) := by omega
    rw [e2, key _ (by omega)]
    exact ⟨1, by omega, by omega, rfl, by omega⟩
set_option maxHeartbeats 2000000 in
theorem cnt_Sub_no (A B : Option Addr) (ca cb : Nat) (a b : List Int) (w : World) (hA : RI w w.heap.size A a) (hB : RI w w.heap.size B b) (ha : Dig a) (hb : Dig b)
    (hal : a.length ≤ 1000000000) (hbl : b.length ≤ 1000000000) (hca : a.length ≤ ca) (hcb : b.length ≤ cb) (hca2 : ca ≤ maxLen) (hcb2 : cb ≤ maxLen) (hlt : val a < val b) :
    Calls Try.prog 12 #[.slice A a.length ca, .slice B b.length cb] w fun e w' => e = .returned (.tuple #[.slice none 0 0, .bool false]) ∧ Below w.heap.size w w' := by
  have HC := Lib.hid (cnt_Cmp A B ca cb a b w hA hB ha hb (by omega) (by omega) hca hcb hca2 hcb2)
  rw [cmpF_lt hlt] at HC
  clear hA hB ha hb
  go_enter Try.func12, Try.ntmps12
  go_wp2_with (go_at_call 15; refine HC.out.mono ?_; rintro e w1 ⟨rfl, hb1⟩)
  go_ret2
  exact ⟨rfl, hb1⟩

set_option maxHeartbeats 2000000 in
theorem cnt_Sub_yes (A B : Option Addr) (ca cb : Nat) (a b : List Int) (w : World) (hA : RI w w.heap.size A a) (hB : RI w w.heap.size B b) (ha : Dig a) (hb : Dig b)
    (hal : a.length ≤ 1000000000) (hbl : b.length ≤ 1000000000) (hca : a.length ≤ ca) (hcb : b.length ≤ cb) (hca2 : ca ≤ maxLen) (hcb2 : cb ≤ maxLen) (hle : val b ≤ val a) :
    Calls Try.prog 12 #[.slice A a.length ca, .slice B b.length cb] w fun e w' => ∃ v, e = .returned (.tuple #[v, .bool true]) ∧ Res w w' (val a - val b) a.length (.returned v) := by
  have HC := Lib.hid (cnt_Cmp A B ca cb a b w hA hB ha hb (by omega) (by omega) hca hcb hca2 hcb2)
  obtain ⟨r, hr⟩ : ∃ r, cmpF (val a) (val b) = r := ⟨_, rfl⟩
  have hr0 := cmpF_ge hle
  rw [hr] at HC hr0
  have HA := Lib.hid hA
  have HB := Lib.hid hB
  have HDa := Lib.hid ha
  have HDb := Lib.hid hb
  have HLE := Lib.hid hle
  have hmk := run_mk a.length (by omega)
  clear hA hB ha hb hr hle
  go_enter Try.func12, Try.ntmps12
  go_wp2_with (go_at_call 15; refine HC.out.mono ?_; rintro e w1 ⟨rfl, hb1⟩)
  have hs1 : w.heap.size ≤ w1.heap.size := hb1.size
  go_loopw [6, 20] (fun c i wr => ∃ (k : Nat) (C : Int) (t : List Int), k ≤ a.length ∧ i = .int .i64 k ∧ c = .int .u64 C ∧ 0 ≤ C ∧ C ≤ 1 ∧ t.length = a.length ∧ Hid (Blk wr w1.heap.size 62 (intRow t)) ∧ Hid (Dig t ∧ val (t.take k) + val (b.take k) = val (a.take k) + C * pw k) ∧ Below w.heap.size w wr) (fun _ i _ => a.length - (intOf i).toNat)
  case atStart => exact ⟨0, 0, List.replicate a.length 0, Nat.zero_le _, rfl, rfl, by omega, by omega, by simp, Lib.hid (Blk.new _ _ _), Lib.hid ⟨Dig.zeros _, by simp [val]⟩, hb1.alloc hs1 _⟩
  case round =>
    obtain ⟨k, C, t, hk, rfl, rfl, hC0, hC1, htl, HT, HV, hb⟩ := hrel
    clear hmk
    by_cases hlt : k < a.length
    · have hlt' : (k : Int) < (a.length : Int) := by omega
      obtain ⟨ab, ao, rfl, hg1, hc1⟩ := HA.out (by omega)
      have e1 := (hb.cell (p := ⟨ab, ao + k, none⟩) hg1).trans (hc1 k (by omega))
      have d1 := HDa.out _ (li_mem hlt)
      have hfz := HT.out.frozen k
      have e3 : wr.cell? ⟨w1.heap.size, k, none⟩ = some (.int .u32 (li t k)) := (HT.out.cell k).trans (intRow_at (by omega))
      have hg2 : w1.heap.size < wr.heap.size := HT.out.lt
      have hst : ∀ y, Hid (Blk (wr.setCell ⟨w1.heap.size, k, none⟩ (.int .u32 y)) w1.heap.size 62 (intRow (t.set k y))) := fun y => by
        have := HT.out.set_ k (.int .u32 y); rwa [intRow_set] at this
      have HST := Lib.hid hst
      clear hc1 hst
      by_cases hkb : k < b.length
      · have hkb' : (k : Int) < (b.length : Int) := by omega
        obtain ⟨bb, bo, rfl, hg3, hc2⟩ := HB.out (by omega)
        have e2 := (hb.cell (p := ⟨bb, bo + k, none⟩) hg3).trans (hc2 k (by omega))
        have d2 := HDb.out _ (li_mem hkb)
        clear hc2
        obtain ⟨C', hC0', hC1', hbit, hdig⟩ := sub_dig d1.1 d1.2 (z := C + li b k) (by omega) (by omega)
        have HBIT := Lib.hid hbit
        have HDIG := Lib.hid hdig
        clear hbit hdig
        go_wp2
        go_roundw
        case rel => exact ⟨k + 1, C', _, by omega, by go_num, by rw [HBIT.out], hC0', hC1', by rw [List.length_set]; exact htl, HST.out _, Lib.hid ⟨HV.out.1.set _ (by omega) (by omega), sub_up hlt hkb (by omega) HV.out.2 HDIG.out⟩, hb.setCell (p := ⟨w1.heap.size, k, none⟩) hs1 _⟩
        case measure => simp [intOf]; omega
      · have hkb' : ¬ (k : Int) < (b.length : Int) := by omega
        obtain ⟨C', hC0', hC1', hbit, hdig⟩ := sub_dig d1.1 d1.2 (z := C) (by omega) (by omega)
        have HBIT := Lib.hid hbit
        have HDIG := Lib.hid hdig
        clear hbit hdig
        go_wp2
        go_roundw
        case rel => exact ⟨k + 1, C', _, by omega, by go_num, by rw [HBIT.out], hC0', hC1', by rw [List.length_set]; exact htl, HST.out _, Lib.hid ⟨HV.out.1.set _ (by omega) (by omega), sub_up0 hlt (by omega) (by omega) HV.out.2 HDIG.out⟩, hb.setCell (p := ⟨w1.heap.size, k, none⟩) hs1 _⟩
        case measure => simp [intOf]; omega
    · obtain rfl : k = a.length := by omega
      have HX : Hid (val t = val a - val b) := Lib.hid (sub_last HDa.out HDb.out HV.out.1 htl (by omega) HV.out.2 HLE.out)
      have HO : Hid (Own wr w.heap.size (.slice (some ⟨w1.heap.size, 0, none⟩) t.length t.length) t) := Lib.hid (own_blk HT.out hs1 (by unfold maxLen; omega))
      have HC2 := trim_res HO.out HV.out.1 HX.out (Nat.le_refl _) (by omega) hb
      rw [htl] at HC2
      have HC3 := Lib.hid HC2
      clear HC2
      go_wp2_with (go_at_call 36; refine HC3.out.mono ?_; rintro e w2 ⟨v', s', rfl, hR⟩; have HR := Lib.hid hR; clear hR)
      go_ret2
      exact ⟨_, rfl, _, _, rfl, HR.out⟩
end Go.Proofs.Ytjnabmchejdhpaa
