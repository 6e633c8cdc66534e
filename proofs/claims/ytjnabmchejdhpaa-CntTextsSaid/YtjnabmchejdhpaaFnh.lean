/- Contract of Text of layer 4 (cnt), over the translation. -/
import Derived.Test.YtjnabmchejdhpaaFng
import Derived.Laws.BytesArg
namespace Go.Proofs.Ytjnabmchejdhpaa
open Go.RowKit

theorem info5 : (Try.prog.info? 5).map (fun i => (i.zero, i.size, i.bytes)) = some (some (.int .u8 0), 1, 1) := by kernel_rfl
def p10 : Nat → Int
  | 0 => 1
  | k + 1 => 10 * p10 k
theorem Inv.le {n r k : Nat} {ds : List Int} (h : Inv n r ds) (hk : 1 ≤ k) (hn : n < 10 ^ k) : ds.length ≤ k := by
  rcases h with ⟨rfl, _⟩ | ⟨_, h2⟩
  · simp
  · have h3 := digs_len n k hk hn
    rw [← h2] at h3
    simp at h3; omega
theorem Inv.end0 {n : Nat} {ds : List Int} (h : Inv n 0 ds) : (ds = [] ∧ n = 0) ∨ (ds ≠ [] ∧ ds = digs n) := by
  by_cases c : ds = []
  · rcases h with ⟨_, h2⟩ | ⟨h1, _⟩
    · exact .inl ⟨c, h2.symm⟩
    · exact absurd c h1
  · exact .inr ⟨c, h.done c⟩
theorem low_step {n : Nat} {V low : Int} {L : List Int} {j : Nat} (_hV : 0 ≤ V) (_hl : 0 ≤ low) (hp : 0 < V * p10 (j + 1) + low) (h : Inv n (V * p10 (j + 1) + low).toNat L.reverse) :
    Inv n (V * p10 j + low / 10).toNat (L ++ [48 + low % 10]).reverse := by
  have e1 : V * p10 (j + 1) = 10 * (V * p10 j) := Int.mul_left_comm _ _ _
  have hs := h.step (.inl (by omega))
  rw [e1] at hs hp
  rw [List.reverse_append, List.reverse_singleton, List.singleton_append]
  have e2 : (10 * (V * p10 j) + low).toNat / 10 = (V * p10 j + low / 10).toNat := by omega
  have e3 : (((10 * (V * p10 j) + low).toNat % 10 : Nat) : Int) = low % 10 := by omega
  rw [e2, e3] at hs
  exact hs
theorem p10_pos (k : Nat) : 1 ≤ p10 k := by
  induction k with
  | zero => exact Int.le_refl _
  | succ k ih => show 1 ≤ 10 * p10 k; omega
theorem OwnB.only {w w' : World} {B : Nat} {v tv : Value} {L : List Int} (h : OwnB w B tv L) (ho : Only v w w') (hv : ∀ k, v.ownBlock = some k → k < B) : OwnB w' B tv L := by
  obtain ⟨h1, h2⟩ := h
  refine ⟨h1, ?_⟩
  rcases h2 with h2 | ⟨g, cap, cur, e, hg, hh, r⟩
  · exact .inl h2
  · exact .inr ⟨g, cap, cur, e, hg, (ho g (fun e2 => by have := hv g e2; omega)).trans hh, r⟩
theorem Own.keepB {w w' : World} {B B2 : Nat} {v : Value} {l : List Int} (h : Own w B v l) (hv : ∀ k, v.ownBlock = some k → k < B2) (hb : Below B2 w w') : Own w' B v l := by
  obtain ⟨h1, h2⟩ := h
  refine ⟨h1, ?_⟩
  rcases h2 with h2 | ⟨g, cap, cur, e, hg, hh, r⟩
  · exact .inl h2
  · exact .inr ⟨g, cap, cur, e, hg, (hb.block g (hv g (by rw [e]; rfl))).trans hh, r⟩
theorem own_ri {w : World} {B : Nat} {A : Option Addr} {c : Nat} {l : List Int} (h : Own w B (.slice A l.length c) l) : RI w w.heap.size A l := by
  obtain ⟨A2, c2, e, hR, _⟩ := h.form
  injection e with e1 e2 e3
  subst e1
  exact hR
theorem nrm_zero {s : List Int} (hD : Dig s) (hn : nrm s = true) (h : val s = 0) : s = [] := nrm_inj hD Dig.nil hn rfl h
theorem nrm_pos {s : List Int} (hD : Dig s) (hn : nrm s = true) (h : 0 < s.length) : 0 < val s := by
  have h1 := val_lo hD
  rcases Int.lt_or_le 0 (val s) with c | c
  · exact c
  · have := nrm_zero hD hn (by omega)
    rw [this] at h; simp at h
theorem OwnB.str {w : World} {B : Nat} {A : Option Addr} {c : Nat} {L : List Int} (h : OwnB w B (.slice A L.length c) L) (hL : 0 < L.length) : (convert 71 9 (.slice A L.length c)).run Try.prog w = .ok (.string (strOfNums L)) w := by
  obtain ⟨A2, c2, e, hR, _⟩ := h.form
  injection e with e1 e2 e3
  subst e1 e3
  obtain ⟨b, off, rfl, _, hc⟩ := hR hL
  exact run_convert_bytes_arg w 71 5 Try.underlying71 Try.underlying5 b off L.length c L rfl (fun i hi => by rw [hc i hi]; rfl) 9 Try.underlying9
theorem txt_zero : txt 0 = ⟨#[48]⟩ := by unfold txt; rw [digs, dif_pos (by omega)]; rfl

set_option maxHeartbeats 4000000 in
theorem cnt_Text (A : Option Addr) (ca : Nat) (a : List Int) (w : World) (k0 : Nat) (hA : RI w w.heap.size A a) (hAn : A = none → ca = 0) (ha : Dig a) (hal : a.length ≤ 100000000) (hca : a.length ≤ ca) (hca2 : ca ≤ maxLen)
    (hk0 : 1 ≤ k0) (hk1 : k0 ≤ 1000000) (hn : (val a).toNat < 10 ^ k0) :
    Calls Try.prog 27 #[.slice A a.length ca] w fun e w' => e = .returned (.string (txt (val a).toNat)) ∧ Below w.heap.size w w' := by
  obtain ⟨i0, hi0, hz0, hz1, hz2⟩ := info_parts info5
  have HA := Lib.hid hA
  have HDa := Lib.hid ha
  have HN := Lib.hid hn
  have hv0 := val_lo ha
  obtain ⟨n, hn'⟩ : ∃ n, (val a).toNat = n := ⟨_, rfl⟩
  rw [hn'] at HN ⊢
  have HNE := Lib.hid hn'
  have hle := trimL_le a
  clear hA ha hn hn'
  have HT1 := Lib.hid (cnt_trim A ca a w HA.out (by omega) hca hca2)
  go_enter Try.func27, Try.ntmps27
  go_wp2_with (first
    | (go_at_call 36; refine HT1.out.mono ?_; rintro e w1 ⟨rfl, hb1⟩)
    | (go_at_call 42; refine (cnt_Clone A ca (trimL a) w1 ((HA.out.take _).step hb1) hAn (by omega) (by omega)).mono ?_; rintro e w2 ⟨v0, rfl, hO, hb2⟩; have HO := Lib.hid hO; clear hO))
  have hbw2 : Below w.heap.size w w2 := step2 hb1 hb2
  have hs12 : w1.heap.size ≤ w2.heap.size := hb2.size
  have hs01 : w.heap.size ≤ w1.heap.size := hb1.size
  have HL := Lib.hid (fun k e => HO.out.lt k e)
  go_loopg [3, 4] (n + 1) (fun K v tv wr => ∃ (s L : List Int), s.length ≤ 100000000 ∧ (val s).toNat < K ∧ Hid (Own wr w1.heap.size v s ∧ (∀ k, v.ownBlock = some k → k < w2.heap.size) ∧ nrm s = true ∧ Dig s ∧ OwnB wr w2.heap.size tv L ∧ Inv n (val s).toNat L.reverse) ∧ Below w.heap.size w wr ∧ w2.heap.size ≤ wr.heap.size)
  case atStart => exact ⟨trimL a, [], by omega, by rw [trimL_val, HNE.out]; omega, Lib.hid ⟨HO.out, HL.out, trimL_nrm a, trimL_dig HDa.out, OwnB.nil _ _, by rw [trimL_val, HNE.out]; exact Inv.start n⟩, hbw2, Nat.le_refl _⟩
  case round =>
    obtain ⟨s, L, hsl, hsK, HT, hb, hsz⟩ := hrel
    obtain ⟨As, cs, rfl, hcs1, hcs2, _, _⟩ := HT.out.1.len_cap
    obtain ⟨At, ct, rfl, hct1, hct2, _, _⟩ := HT.out.2.2.2.2.1.len_cap
    have hLk := HT.out.2.2.2.2.2.le hk0 HN.out
    rw [List.length_reverse] at hLk
    by_cases hlt : 0 < s.length
    · have hlt' : (0 : Int) < (s.length : Int) := by omega
      have HVp := Lib.hid (nrm_pos HT.out.2.2.2.1 HT.out.2.2.1 hlt)
      have HC := Lib.hid (cnt_divide w1.heap.size (.slice As s.length cs) s wr HT.out.1 (by omega) HT.out.2.2.2.1 (by omega))
      go_wp2_with (first
        | (go_at_call 43; refine HC.out.mono ?_; rintro e w3 ⟨R, t, rfl, hO3, hD3, hl3, hv3, hR0, hR1, hb3, hon3⟩; have HO3 := Lib.hid hO3; have HD3 := Lib.hid hD3; have HV3 := Lib.hid hv3; have HOn3 := Lib.hid hon3; clear hO3 hD3 hv3 hon3)
        | (go_at_call 36; rw [← hl3]; refine (cnt_trim As cs t w3 (own_ri (by rw [hl3]; exact HO3.out)) (by omega) (by omega) hcs2).mono ?_; rintro e w4 ⟨rfl, hb4⟩))
      obtain ⟨t2, ht2⟩ : ∃ t2, trimL t = t2 := ⟨_, rfl⟩
      have hBk : ∀ k, (Value.slice As t2.length cs).ownBlock = some k → k < w2.heap.size := fun k e => HT.out.2.1 k (by cases As <;> first | exact e | simpa [Value.ownBlock] using e)
      have HBK := Lib.hid hBk
      have HO4 : Hid (Own w4 w1.heap.size (.slice As t2.length cs) t2) := Lib.hid (by
        have h1 : Own w3 w1.heap.size (.slice As t.length cs) t := by rw [hl3]; exact HO3.out
        rw [← ht2]; exact (h1.keep hb4).trim)
      have HN4 : Hid (nrm t2 = true) := Lib.hid (by rw [← ht2]; exact trimL_nrm t)
      have HD4 : Hid (Dig t2) := Lib.hid (by rw [← ht2]; exact trimL_dig HD3.out)
      have HV4 : Hid (val s = val t2 * 1000000000 + R ∧ 0 < val s ∧ 0 ≤ val t2) := Lib.hid ⟨by rw [← ht2, trimL_val]; exact HV3.out, HVp.out, val_lo HD4.out⟩
      have hs34 := hb4.size
      have hs3 := hb3.size
      have hbw4 : Below w.heap.size w w4 := (hb.trans (hb3.mono (by omega))).trans (hb4.mono (by omega))
      have HB4 : Hid (OwnB w4 w2.heap.size (.slice At L.length ct) L) := Lib.hid ((HT.out.2.2.2.2.1.only HOn3.out HT.out.2.1).keep hb4)
      have ht2l : t2.length ≤ 100000000 := by rw [← ht2]; have := trimL_le t; omega
      have hI4 : Inv n (val t2 * p10 9 + R).toNat L.reverse := by
        have h1 := HT.out.2.2.2.2.2
        rw [HV4.out.1] at h1
        exact h1
      have HI4 := Lib.hid hI4
      rw [ht2]
      clear hI4 hBk ht2
      go_loopw [4, 5, 6] (fun tv lv iv wr => ∃ (j : Nat) (low : Int) (L' : List Int), j ≤ 9 ∧ iv = .int .i64 (9 - (j : Int)) ∧ lv = .int .u32 low ∧ 0 ≤ low ∧ low < 1000000000 ∧ Hid (low < p10 j ∧ OwnB wr w2.heap.size tv L' ∧ Inv n (val t2 * p10 j + low).toNat L'.reverse) ∧ Below w2.heap.size w4 wr ∧ w2.heap.size ≤ wr.heap.size) (fun _ _ iv _ => (9 - intOf iv).toNat)
      case atStart => exact ⟨9, R, L, by omega, rfl, rfl, hR0, hR1, Lib.hid ⟨hR1, HB4.out, HI4.out⟩, Below.refl _ _, by omega⟩
      case round =>
        obtain ⟨j, low, L', hj, rfl, rfl, hl0, hl1, HT5, hb5, hsz5⟩ := hrel
        obtain ⟨A5, c5, rfl, _, _, _, _⟩ := HT5.out.2.1.len_cap
        have HB5 := Lib.hid HT5.out.2.1
        have hL5 := HT5.out.2.2.le hk0 HN.out
        rw [List.length_reverse] at hL5
        have hV0 := HV4.out.2.2
        rcases j with _ | j
        · have h9 : ¬ (9 : Int) - ((0 : Nat) : Int) < 9 := by omega
          have hlow0 : low = 0 := by have h : low < 1 := HT5.out.1; omega
          have HI5 : Hid (Inv n (val t2).toNat L'.reverse) := Lib.hid (by
            have h := HT5.out.2.2
            rw [hlow0] at h
            have e : val t2 * p10 0 + 0 = val t2 := by show val t2 * 1 + 0 = _; omega
            rw [e] at h; exact h)
          go_wp2
          go_roundg ((val t2).toNat + 1)
          case measure => have := HV4.out; omega
          case rel => exact ⟨t2, L', by omega, by omega, Lib.hid ⟨HO4.out.keepB HBK.out hb5, HBK.out, HN4.out, HD4.out, HB5.out, HI5.out⟩, hbw4.trans (hb5.mono (by omega)), hsz5⟩
        · have ej : (9 : Int) - ((j + 1 : Nat) : Int) = 8 - (j : Int) := by omega
          have hj9 : (8 : Int) - (j : Int) < 9 := by omega
          have hlj : low / 10 < p10 j := by have h : low < 10 * p10 j := HT5.out.1; omega
          rw [ej]
          have HPU : Hid (∀ v' w', World.ownsRow w' w2.heap.size 5 1 v' (L'.length + 1) (L'.map (Value.int .u8) ++ [.int .u8 (48 + low % 10)]) → Hid (OwnB w' w2.heap.size v' (L' ++ [48 + low % 10]))) := Lib.hid (fun v' w' h => OwnB.push h)
          by_cases hlp : 0 < low
          · have HST := Lib.hid (low_step hV0 hl0 (by have h1 := p10_pos (j + 1); have h2 : 0 ≤ val t2 * p10 (j + 1) := Int.mul_nonneg hV0 (by omega); omega) HT5.out.2.2)
            go_wp2_with (at_builtin; refine wpList_append_own _ rfl _ _ 71 rfl w2.heap.size 5 i0 _ 1 1 Try.underlying71 hi0 hz0 hz1 hz2 rfl (by decide) _ _ _ rfl (World.ownsRow.alloc HB5.out _) ⟨wr.heap.size, 0, none⟩ 1 1 [.int .u8 (48 + low % 10)] rfl rfl (cell_one_new _ _ _) (by simp [Value.oneCell']) (by unfold maxLen; omega) (by omega) (by simp; omega) ?_; intro v2 w5 hown hgr _; have HP := HPU.out _ _ hown; have hbw5 : Below w2.heap.size w4 w5 := HB5.out.grow2 hb5 hsz5 hgr; have hsz6 : w2.heap.size ≤ w5.heap.size := Nat.le_trans (by omega) hbw5.size; clear hown hgr)
            go_roundw
            case rel => exact ⟨j, low / 10, L' ++ [48 + low % 10], by omega, by go_num, rfl, by omega, by omega, Lib.hid ⟨hlj, HP.out, HST.out⟩, hbw5, hsz6⟩
            case measure => simp [intOf]; omega
          · obtain rfl : low = 0 := by omega
            by_cases hz : 0 < t2.length
            · have hz' : (0 : Int) < (t2.length : Int) := by omega
              have HST := Lib.hid (low_step hV0 hl0 (by have h1 := p10_pos (j + 1); have h3 := nrm_pos HD4.out HN4.out hz; have h2 : 1 * 1 ≤ val t2 * p10 (j + 1) := Int.mul_le_mul (by omega) h1 (by omega) (by omega); omega) HT5.out.2.2)
              have HST0 : Hid (Inv n (val t2 * p10 j + 0).toNat (L' ++ [48]).reverse) := Lib.hid HST.out
              have hlj0 : (0 : Int) < p10 j := by have := p10_pos j; omega
              have HPU0 : Hid (∀ v' w', World.ownsRow w' w2.heap.size 5 1 v' (L'.length + 1) (L'.map (Value.int .u8) ++ [.int .u8 48]) → Hid (OwnB w' w2.heap.size v' (L' ++ [48]))) := Lib.hid (fun v' w' h => OwnB.push h)
              go_wp2_with (at_builtin; refine wpList_append_own _ rfl _ _ 71 rfl w2.heap.size 5 i0 _ 1 1 Try.underlying71 hi0 hz0 hz1 hz2 rfl (by decide) _ _ _ rfl (World.ownsRow.alloc HB5.out _) ⟨wr.heap.size, 0, none⟩ 1 1 [.int .u8 (48)] rfl rfl (cell_one_new _ _ _) (by simp [Value.oneCell']) (by unfold maxLen; omega) (by omega) (by simp; omega) ?_; intro v2 w5 hown hgr _; have HP := HPU0.out _ _ hown; have hbw5 : Below w2.heap.size w4 w5 := HB5.out.grow2 hb5 hsz5 hgr; have hsz6 : w2.heap.size ≤ w5.heap.size := Nat.le_trans (by omega) hbw5.size; clear hown hgr)
              go_roundw
              case rel => exact ⟨j, 0, L' ++ [48], by omega, by go_num, rfl, by omega, by omega, Lib.hid ⟨hlj0, HP.out, HST0.out⟩, hbw5, hsz6⟩
              case measure => simp [intOf]; omega
            · have hz' : ¬ (0 : Int) < (t2.length : Int) := by omega
              have ht0 : t2 = [] := List.eq_nil_of_length_eq_zero (by omega)
              have HI5 : Hid (Inv n (val t2).toNat L'.reverse) := Lib.hid (by
                have h := HT5.out.2.2
                rw [ht0] at h ⊢
                have e : val [] * p10 (j + 1) + 0 = val [] := by show (0 : Int) * p10 (j + 1) + 0 = 0; omega
                rw [e] at h; exact h)
              clear ht0
              go_wp2
              go_roundg ((val t2).toNat + 1)
              case measure => have := HV4.out; omega
              case rel => exact ⟨t2, L', by omega, by omega, Lib.hid ⟨HO4.out.keepB HBK.out hb5, HBK.out, HN4.out, HD4.out, HB5.out, HI5.out⟩, hbw4.trans (hb5.mono (by omega)), hsz5⟩
    · obtain rfl : s = [] := List.eq_nil_of_length_eq_zero (by omega)
      have hz' : ¬ (0 : Int) < ((0 : Nat) : Int) := by omega
      have HI := Lib.hid (HT.out.2.2.2.2.2.end0)
      by_cases hL0 : L.length = 0
      · have HX : Hid (txt n = ⟨#[48]⟩) := Lib.hid (by
          have h : L.reverse = [] := by rw [List.eq_nil_of_length_eq_zero hL0]; rfl
          rcases HI.out with ⟨_, h2⟩ | ⟨h2, _⟩
          · rw [h2]; exact txt_zero
          · exact absurd h h2)
        have hL0' : (L.length : Int) = 0 := by omega
        go_wp2
        go_ret
        exact ⟨by rw [HX.out]; rfl, hb⟩
      · have HX : Hid (txt n = strOfNums L.reverse) := Lib.hid (by
          rcases HI.out with ⟨h2, _⟩ | ⟨_, h2⟩
          · exact absurd (by simpa using h2) (fun e : L = [] => hL0 (by rw [e]; rfl))
          · rw [h2]; rfl)
        have hL0' : ¬ (L.length : Int) = 0 := by omega
        have HB := Lib.hid HT.out.2.2.2.2.1
        have HRV := Lib.hid (cnt_Reverse w2.heap.size (.slice At L.length ct) L wr HB.out hsz (by omega))
        go_wp2_with (first
          | (go_at_call 44; refine HRV.out.mono ?_; rintro e w3 ⟨rfl, hO3, hb3⟩; have hstr := OwnB.str (L := L.reverse) (A := At) (c := ct) (by rw [List.length_reverse]; exact hO3) (by rw [List.length_reverse]; omega); rw [List.length_reverse] at hstr; have HO3 := Lib.hid hO3; clear hO3))
        go_ret
        exact ⟨by rw [HX.out]; rfl, hb.trans (hb3.mono (by omega))⟩
end Go.Proofs.Ytjnabmchejdhpaa
