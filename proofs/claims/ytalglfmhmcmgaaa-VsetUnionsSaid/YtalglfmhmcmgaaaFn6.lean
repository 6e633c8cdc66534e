/- Contracts of Union of layer 3 (vset) and of its specification, over the translation. -/
import Derived.Test.YtalglfmhmcmgaaaFn5
namespace Go.Proofs.Ytalglfmhmcmgaaa
open Go.RowKit

set_option maxHeartbeats 2000000 in
theorem vset_Union (A : Option Addr) (ca : Nat) (rows : List Rw) (w : World) (h : RR w w.heap.size A rows) (hr : rows.length ≤ 1000000) (hl : (allL rows rows.length).length ≤ 1000000) :
    Calls Try.prog 23 #[.slice A rows.length ca] w (Gives w (setL (allL rows rows.length))) := by
  have HC := Lib.hid (concat_any A ca rows w h hr hl)
  obtain ⟨T, hT⟩ : ∃ T, allL rows rows.length = T := ⟨_, rfl⟩
  rw [hT] at HC hl ⊢
  clear h hT
  go_enter Try.func23, Try.ntmps23
  go_wp2_with fail
  refine HC.out.mono ?_; rintro e w1 ⟨v, rfl, hO, hb1⟩
  have HS := Lib.hid (vset_sorted _ _ _ _ hO (by omega))
  clear hO HC
  go_wp2_with fail
  refine HS.out.mono ?_; rintro e w2 ⟨A2, rfl, hA, hb2⟩
  have HG : Hid (Gives w (setL T) (.returned (.slice A2 (setL T).length (setL T).length)) w2) := by
    have hb := hb1.trans hb2
    exact GivesB.gives ⟨A2, rfl, hA, hb⟩
  obtain ⟨n, hn⟩ : ∃ n, (setL T).length = n := ⟨_, rfl⟩
  rw [hn] at HG ⊢
  clear hA HS hn
  go_wp2
  go_ret
  exact HG.out

set_option maxHeartbeats 2000000 in
theorem ref_Union (A : Option Addr) (ca : Nat) (rows : List Rw) (w : World) (h : RR w w.heap.size A rows) (hr : rows.length ≤ 1000000) (hl : (allL rows rows.length).length ≤ 1000000) :
    Calls Try.prog 24 #[.slice A rows.length ca] w (Gives w (setL (allL rows rows.length))) := by
  obtain ⟨i0, hi0, hz0, hz1, hz2⟩ := info_parts info3
  have H := Lib.hid h
  have hE := Lib.hid (Own.empty w)
  have hbw0 : Below w.heap.size w (w.alloc (.cells #[] 3)) := (Below.refl _ _).alloc (Nat.le_refl _) _
  obtain ⟨t, ht⟩ : ∃ t, (allL rows rows.length).length = t := ⟨_, rfl⟩
  have HT := Lib.hid ht
  rw [ht] at hl
  clear h ht
  go_enter Try.func24, Try.ntmps24
  go_wp2
  go_loopw [3, 4] (fun v i wr => ∃ k : Nat, k ≤ rows.length ∧ i = .int .i64 k ∧ Own wr w.heap.size v (allL rows k) ∧ Below w.heap.size w wr) (fun _ i _ => rows.length - (intOf i).toNat)
  case atStart => exact ⟨0, Nat.zero_le _, rfl, hE.out, hbw0⟩
  case round =>
    obtain ⟨k, hk, rfl, hO, hbr⟩ := hrel
    have HO2 := Lib.hid hO
    clear hO
    by_cases hlt : k < rows.length
    · obtain ⟨b, off, rfl, hb, hc⟩ := H.out.at_ (by omega)
      have e1 := (hbr.cell (p := ⟨b, off + k, none⟩) hb).trans (hc k hlt)
      obtain ⟨hR, hN⟩ := H.out.row k hlt
      unfold rcell at e1
      have h1' : (k : Int) < (rows.length : Int) := by omega
      have hs1 := allL_succ hlt
      have hs2 := allL_le rows (j := k + 1) (k := rows.length) (by omega) (Nat.le_refl _)
      rw [HT.out, hs1, List.length_append] at hs2
      obtain ⟨⟨Ak, ck, lk⟩, hrk⟩ : ∃ r, rw_ rows k = r := ⟨_, rfl⟩
      rw [hrk] at e1 hR hN hs1 hs2
      simp only at e1 hR hN hs1 hs2
      obtain ⟨T, hT⟩ : ∃ T, allL rows k = T := ⟨_, rfl⟩
      rw [hT] at HO2 hs1 hs2
      have HS := Lib.hid hs1
      clear hc hs1 hrk hT
      have hsz := hbr.size
      cases Ak with
      | none =>
        obtain rfl : lk = [] := hR.none_nil
        obtain rfl : ck = 0 := hN rfl
        have HS2 : Hid (allL rows (k + 1) = T) := by show _ = _; rw [HS.out]; simp
        clear hR hN HS
        go_wp2_with (at_builtin; refine wpList_append_own_none rfl _ _ 22 rfl w.heap.size 3 i0 1 Try.underlying22 hi0 _ _ _ rfl HO2.out rfl ?_)
        go_roundw
        case rel => exact ⟨k + 1, by omega, by go_num, by rw [HS2.out]; exact HO2.out, hbr⟩
        case measure => simp [intOf]; omega
      | some ad =>
        have hsrc : Hid (∀ j u, (lk.map (Value.int .i64))[j]? = some u → wr.cell? (ad.add j) = some u) := fun j u hj => by
          obtain ⟨h1, h2⟩ := hR.src j u hj
          exact (hbr.cell h2).trans h1
        clear hR hN
        have HB := Lib.hid hbr
        go_wp2_with (at_builtin; refine wpList_append_own _ rfl _ _ 22 rfl w.heap.size 3 i0 _ 1 8 Try.underlying22 hi0 hz0 hz1 hz2 rfl (by decide) _ _ _ rfl HO2.out ad lk.length ck (lk.map (Value.int .i64)) rfl (by simp) hsrc.out (by intro v hv; rw [List.mem_map] at hv; obtain ⟨_, _, rfl⟩ := hv; rfl) (by unfold maxLen; omega) (by omega) hsz ?_; intro v2 w4 hown hg4 _; have hbr4 := HB.out.grown hg4 hsz (fun k e => HO2.out.block k e); have HO4 : Hid (Own w4 w.heap.size v2 (T ++ lk)) := ⟨by simp, by simpa using hown.2⟩; clear hown hg4 HO2)
        go_roundw
        case rel => exact ⟨k + 1, by omega, by go_num, by rw [HS.out]; exact HO4.out, hbr4⟩
        case measure => simp [intOf]; omega
    · obtain rfl : k = rows.length := by omega
      obtain ⟨T, hT⟩ : ∃ T, allL rows rows.length = T := ⟨_, rfl⟩
      have HTT := Lib.hid hT
      rw [hT] at HO2 HT
      obtain ⟨A2, c2, rfl, R2, hA2⟩ := HO2.out.form
      have HOf := Lib.hid (ref_Of A2 c2 T wr R2 (by rw [HT.out]; omega))
      clear hT HO2 R2 hA2
      go_wp2_with fail
      refine HOf.out.mono ?_; rintro e w3 ⟨A3, c3, he, R3, hA3, hb3⟩
      have hbw := hbr.trans (hb3.mono hbr.size)
      obtain ⟨X, hX⟩ : ∃ X, setL T = X := ⟨_, rfl⟩
      rw [hX] at he R3
      have HR3 := Lib.hid R3
      have HA3 := Lib.hid hA3
      have HX := Lib.hid hX
      clear R3 hA3 hb3 HOf hX
      subst he
      go_wp2
      go_ret
      show Gives _ _ _ _
      rw [HTT.out, HX.out]
      exact ⟨A3, c3, rfl, HR3.out, HA3.out, hbw⟩
end Go.Proofs.Ytalglfmhmcmgaaa
