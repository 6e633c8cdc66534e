/- Contract of Half of layer 4 (cnt), over the translation. -/
import Derived.Test.YtjnabmchejdhpaaFn7
namespace Go.Proofs.Ytjnabmchejdhpaa
open Go.RowKit

theorem u32_and1 {x : Int} (h : 0 ≤ x) (h2 : x < 4294967296) : bits BinOp.and IntKind.u32 x 1 = x % 2 := by
  obtain ⟨n, rfl⟩ := Int.eq_ofNat_of_zero_le h
  rw [u32_and _ _ (by omega) (by omega) (by omega) (by omega)]
  have e : (1 : Int).toNat = 1 := rfl
  rw [e, Nat.and_one_is_mod]
  omega
theorem half_step {a t : List Int} {k : Nat} {C y : Int} (hk : k < a.length) (hkt : k < t.length) (h : val (a.drop (k + 1)) = 2 * val (t.drop (k + 1)) + C) (hy : 2 * y + li a k % 2 = li a k + C * 4294967296) :
    val (a.drop k) = 2 * val ((t.set k y).drop k) + li a k % 2 := by
  rw [drop_set0 t hkt, val_drop hk]
  have e : a.getD k 0 = li a k := rfl
  rw [e]
  show _ = 2 * (y + 4294967296 * val (t.drop (k + 1))) + _
  omega
set_option maxHeartbeats 2000000 in
theorem cnt_Half (A : Option Addr) (ca : Nat) (a : List Int) (w : World) (hA : RI w w.heap.size A a) (ha : Dig a) (hal : a.length ≤ 1000000000) :
    Calls Try.prog 19 #[.slice A a.length ca] w fun e w' => ∃ v, e = .returned (.tuple #[v, .bool (decide (val a % 2 = 1))]) ∧ Res w w' (val a / 2) a.length (.returned v) := by
  have HA := Lib.hid hA
  have HDa := Lib.hid ha
  have hmk := run_mk a.length (by omega)
  clear hA ha
  go_enter Try.func19, Try.ntmps19
  go_wp2
  go_loopw [4, 5] (fun c i wr => ∃ (k : Nat) (C : Int) (t : List Int), k ≤ a.length ∧ i = .int .i64 ((k : Int) - 1) ∧ c = .int .u32 C ∧ 0 ≤ C ∧ C ≤ 1 ∧ t.length = a.length ∧ Hid (Blk wr w.heap.size 62 (intRow t)) ∧ Hid (Dig t ∧ val (a.drop k) = 2 * val (t.drop k) + C) ∧ Below w.heap.size w wr) (fun _ i _ => (intOf i + 1).toNat)
  case atStart => exact ⟨a.length, 0, List.replicate a.length 0, Nat.le_refl _, rfl, rfl, by omega, by omega, by simp, Lib.hid (Blk.new _ _ _), Lib.hid ⟨Dig.zeros _, by rw [List.drop_length, List.drop_of_length_le (by simp)]; rfl⟩, (Below.refl _ _).alloc (Nat.le_refl _) _⟩
  case round =>
    obtain ⟨k, C, t, hk, rfl, rfl, hC0, hC1, htl, HT, HV, hb⟩ := hrel
    clear hmk
    rcases k with _ | k
    · have h0 : ¬ (0 : Int) ≤ ((0 : Nat) : Int) - 1 := by omega
      have hv : val a = 2 * val t + C := HV.out.2
      have HX : Hid (val t = val a / 2) := Lib.hid (by omega)
      have HY : Hid (decide (val a % 2 = 1) = (C == 1)) := Lib.hid (by
        rcases (show C = 0 ∨ C = 1 by omega) with rfl | rfl
        · simp; omega
        · simp; omega)
      clear hv
      have HO : Hid (Own wr w.heap.size (.slice (some ⟨w.heap.size, 0, none⟩) t.length t.length) t) := Lib.hid (own_blk HT.out (Nat.le_refl _) (by unfold maxLen; omega))
      have HC2 := trim_res HO.out HV.out.1 HX.out (Nat.le_refl _) (by omega) hb
      rw [htl] at HC2
      have HC3 := Lib.hid HC2
      clear HC2
      go_wp2_with (go_at_call 36; refine HC3.out.mono ?_; rintro e w2 ⟨v', s', rfl, hR⟩; have HR := Lib.hid hR; clear hR)
      go_ret2
      exact ⟨v', by rw [HY.out]; rfl, v', s', rfl, HR.out⟩
    · have ek : ((k + 1 : Nat) : Int) - 1 = (k : Int) := by omega
      rw [ek]
      obtain ⟨ab, ao, rfl, hg1, hc1⟩ := HA.out (by omega)
      have e1 := (hb.cell (p := ⟨ab, ao + k, none⟩) hg1).trans (hc1 k (by omega))
      have d1 := HDa.out _ (li_mem (l := a) (i := k) (by omega))
      have hfz := HT.out.frozen k
      have e3 : wr.cell? ⟨w.heap.size, k, none⟩ = some (.int .u32 (li t k)) := (HT.out.cell k).trans (intRow_at (by omega))
      have hg2 : w.heap.size < wr.heap.size := HT.out.lt
      have h1' : (k : Int) < (a.length : Int) := by omega
      have h0' : (0 : Int) ≤ (k : Int) := by omega
      have hst : ∀ y, Hid (Blk (wr.setCell ⟨w.heap.size, k, none⟩ (.int .u32 y)) w.heap.size 62 (intRow (t.set k y))) := fun y => by
        have := HT.out.set_ k (.int .u32 y); rwa [intRow_set] at this
      have HST := Lib.hid hst
      have hal1 := half_join (x := li a k / 2) (c := C) (by omega) (by omega) (by omega)
      have hal2 := u32_and1 d1.1 d1.2
      clear hc1 hst
      go_wp2
      go_roundw
      case rel => exact ⟨k, _, _, by omega, rfl, rfl, by omega, by omega, by rw [List.length_set]; exact htl, HST.out _, Lib.hid ⟨HV.out.1.set _ (by omega) (by omega), half_step (by omega) (by omega) HV.out.2 (by omega)⟩, hb.setCell (p := ⟨w.heap.size, k, none⟩) (Nat.le_refl _) _⟩
      case measure => simp [intOf]
end Go.Proofs.Ytjnabmchejdhpaa
