/- Contract of the specification's Text of layer 4 (cnt), over the translation. -/
import Derived.Test.YtjnabmchejdhpaaDcmp
namespace Go.Proofs.Ytjnabmchejdhpaa
open Go.RowKit Go.PlainAid

theorem valL_rev (a : List Int) : valL ((a.map (48 + ·)).reverse) = valT a := by
  induction a with
  | nil => rfl
  | cons d t ih =>
    rw [List.map_cons, List.reverse_cons, valL_snoc, ih]
    show _ = d + 10 * valT t
    omega
theorem digs_rev {a : List Int} (hD : DigT a) (hn : nrmT a = true) (hne : a ≠ []) : digs (valT a).toNat = (a.map (48 + ·)).reverse := by
  have hL : DecL ((a.map (48 + ·)).reverse) := by
    refine ⟨fun d hd => ?_, by simpa using hne, fun h => ?_⟩
    · rw [List.mem_reverse, List.mem_map] at hd
      obtain ⟨x, hx, rfl⟩ := hd
      have := hD x hx
      omega
    · obtain ⟨t, d, rfl⟩ := snoc_of hne
      rw [nrm_snocT] at hn
      rw [List.map_append, List.reverse_append] at h
      simp at h
      exact absurd (show d = 0 by omega) (by simpa using hn)
  have h := (digs_valL _ _ rfl hL).1
  rwa [valL_rev] at h
theorem txt_rev {a : List Int} (hD : DigT a) (hn : nrmT a = true) (hne : a ≠ []) : strOfNums ((a.map (48 + ·)).reverse) = txt (valT a).toNat := by
  unfold txt; rw [digs_rev hD hn hne]
theorem rev_step {a : List Int} {k : Nat} (hk : k < a.length) : ((a.drop (k + 1)).map (48 + ·)).reverse ++ [48 + li a k] = ((a.drop k).map (48 + ·)).reverse := by
  rw [drop_cons' hk, List.map_cons, List.reverse_cons]; rfl
set_option maxHeartbeats 4000000 in
theorem ref_Text (A : Option Addr) (ca : Nat) (a : List Int) (w : World) (hA : Dn w A ca a) (hn : nrmT a = true) (hal : a.length ≤ 100000000) :
    Calls Try.prog 28 #[.slice A a.length ca] w fun e w' => e = .returned (.string (txt (valT a).toNat)) ∧ Below w.heap.size w w' := by
  obtain ⟨i0, hi0, hz0, hz1, hz2⟩ := info_parts info5
  have HA := Lib.hid hA
  have HN := Lib.hid hn
  clear hA hn
  by_cases hl0 : a.length = 0
  · have hc : ((a.length : Int) == 0) = true := by simp [hl0]
    have hc' : (a.length : Int) = 0 := by omega
    have HX : Hid (txt (valT a).toNat = ⟨#[48]⟩) := Lib.hid (by rw [List.eq_nil_of_length_eq_zero hl0]; exact txt_zero)
    go_enter Try.func28, Try.ntmps28
    go_wp2
    go_ret
    exact ⟨by rw [HX.out]; rfl, Below.refl _ _⟩
  · have hc : ((a.length : Int) == 0) = false := by rw [beq_eq_false_iff_ne]; omega
    have hc' : ¬ (a.length : Int) = 0 := by omega
    have HX : Hid (strOfNums (((a.drop 0).map (48 + ·)).reverse) = txt (valT a).toNat) := Lib.hid (by rw [List.drop_zero]; exact txt_rev HA.out.dig HN.out (fun e => hl0 (by rw [e]; rfl)))
    generalize txt (valT a).toNat = T at *
    go_enter Try.func28, Try.ntmps28
    go_wp2
    go_loopw [3, 4] (fun v i wr => ∃ (k : Nat) (L : List Int), k ≤ a.length ∧ i = .int .i64 ((k : Int) - 1) ∧ L.length + k = a.length ∧ Hid (L = ((a.drop k).map (48 + ·)).reverse) ∧ Hid (OwnB wr w.heap.size v L) ∧ Below w.heap.size w wr) (fun _ i _ => (intOf i + 1).toNat)
    case atStart => exact ⟨a.length, [], Nat.le_refl _, rfl, by simp, Lib.hid (by rw [List.drop_length]; rfl), Lib.hid (OwnB.nil _ _), Below.refl _ _⟩
    case round =>
      obtain ⟨k, L, hk, rfl, hL, HL, HO, hb⟩ := hrel
      have hsz := hb.size
      obtain ⟨Ao, co, rfl, _, _, _, _⟩ := HO.out.len_cap
      rcases k with _ | k
      · have h0 : ¬ (0 : Int) ≤ ((0 : Nat) : Int) - 1 := by omega
        have hst := HO.out.str (by omega)
        rw [HL.out, HX.out, ← HL.out] at hst
        go_wp2
        go_ret
        exact ⟨rfl, hb⟩
      · have ek : ((k + 1 : Nat) : Int) - 1 = (k : Int) := by omega
        rw [ek]
        obtain ⟨ab, ao, rfl, hg1, hc1⟩ := HA.out.row (by omega)
        have e1 := (hb.cell (p := ⟨ab, ao + k, none⟩) hg1).trans (hc1 k (by omega))
        have d1 := li_digT HA.out.dig k
        have h1' : (k : Int) < (a.length : Int) := by omega
        have h0' : (0 : Int) ≤ (k : Int) := by omega
        have HST : Hid (L ++ [48 + li a k] = ((a.drop k).map (48 + ·)).reverse) := Lib.hid (by rw [HL.out]; exact rev_step (by omega))
        have HPU : Hid (∀ v' w', World.ownsRow w' w.heap.size 5 1 v' (L.length + 1) (L.map (Value.int .u8) ++ [.int .u8 (48 + li a k)]) → Hid (OwnB w' w.heap.size v' (L ++ [48 + li a k]))) := Lib.hid (fun v' w' h => OwnB.push h)
        clear hc1
        go_wp2_with (at_builtin; refine wpList_append_own _ rfl _ _ 71 rfl w.heap.size 5 i0 _ 1 1 Try.underlying71 hi0 hz0 hz1 hz2 rfl (by decide) _ _ _ rfl (World.ownsRow.alloc HO.out _) ⟨wr.heap.size, 0, none⟩ 1 1 [.int .u8 (48 + li a k)] rfl rfl (cell_one_new _ _ _) (by simp [Value.oneCell']) (by unfold maxLen; omega) (by omega) (by simp; omega) ?_; intro v2 w5 hown hgr _; have HP := HPU.out _ _ hown; have hbw5 : Below w.heap.size w w5 := HO.out.grow2 hb hsz hgr; clear hown hgr)
        go_roundw
        case rel => exact ⟨k, _, by omega, rfl, by simp; omega, HST, HP, hbw5⟩
        case measure => simp [intOf]
end Go.Proofs.Ytjnabmchejdhpaa
