/- EventsBack's walk; layer 28 (events). -/
import Derived.Test.YtfppplalgdopjaaDoorFc
import Derived.Test.YtfppplalgdopjaaDoorWk1
namespace Go.Proofs.YtfppplalgdopjaaDoor
open Go.RowKit

theorem evOf_ok (most vars x : Int) (m1 : 1 ≤ most) (m2 : most ≤ 1048576) (v2 : vars ≤ 64) : flT (evOf most vars x) = 0 ∧ InE (evOf most vars x) ∧ flawE vars (evOf most vars x) = 0 := by
  have ba := nx_bd x
  have bb := nx_bd (nx x)
  have bc := nx_bd (nx (nx x))
  unfold evOf
  dsimp only
  generalize nx (nx (nx x)) = c at *
  generalize nx (nx x) = b at *
  generalize nx x = a at *
  have p0 : 0 ≤ a / 8589934592 % most := Int.emod_nonneg _ (by omega)
  have p1 : a / 8589934592 % most < most := Int.emod_lt_of_pos _ (by omega)
  generalize a / 8589934592 % most = P at *
  have r0 : 0 ≤ b / 8589934592 % 3 ∧ b / 8589934592 % 3 < 3 := by omega
  generalize b / 8589934592 % 3 = R at *
  unfold flT InE flawE
  split
  · split
    · refine ⟨?_, ?_, ?_⟩
      · rw [if_neg (by dsimp only; omega), if_neg (by dsimp only; omega)]
      · dsimp only; omega
      · dsimp only; rw [if_neg (by omega), if_neg (by omega)]
    · have q0 : 0 ≤ c / 8589934592 % (vars - 1) := Int.emod_nonneg _ (by omega)
      have q1 : c / 8589934592 % (vars - 1) < vars - 1 := Int.emod_lt_of_pos _ (by omega)
      generalize c / 8589934592 % (vars - 1) = Q at *
      refine ⟨?_, ?_, ?_⟩
      · rw [if_neg (by dsimp only; omega), if_neg (by dsimp only; omega)]
      · dsimp only; omega
      · dsimp only; rw [if_neg (by omega), if_neg (by omega)]
  · refine ⟨?_, ?_, ?_⟩
    · rw [if_neg (by dsimp only; omega), if_neg (by dsimp only; omega)]
    · dsimp only; omega
    · dsimp only; rw [if_neg (by omega), if_neg (by omega)]
theorem spr_all (most vars x : Int) : ∀ (n : Nat) (y : Ev), y ∈ spr most vars x n → ∃ z, y = evOf most vars z
  | 0, y, h => by unfold spr at h; cases h
  | n + 1, y, h => by
    unfold spr at h
    rw [List.mem_append] at h
    rcases h with h | h
    · exact spr_all most vars x n y h
    · simp at h; exact ⟨_, h⟩
theorem spr_len (most vars x : Int) : ∀ n, (spr most vars x n).length = n
  | 0 => rfl
  | n + 1 => by unfold spr; rw [List.length_append, spr_len most vars x n]; rfl
theorem planF_ok (n : Int) : ∀ L : List Ev, (∀ x, x ∈ L → flawE n x = 0) → planF n L = 0
  | [], _ => rfl
  | x :: t, h => by
    unfold planF
    rw [if_pos (h x List.mem_cons_self)]
    exact planF_ok n t (fun y hy => h y (List.mem_cons_of_mem _ hy))
theorem flat_len : ∀ L : List Ev, (∀ x, x ∈ L → InE x) → (L.flatMap tx).length ≤ L.length * 50
  | [], _ => by simp
  | x :: t, h => by
    have h1 := tx_len (h x List.mem_cons_self)
    have h2 := flat_len t (fun y hy => h y (List.mem_cons_of_mem _ hy))
    rw [List.flatMap_cons, List.length_append, List.length_cons]
    omega
set_option maxRecDepth 100000 in
set_option maxHeartbeats 8000000 in
theorem eventsBack_walk (s : ByteArray) (x many most vars : Int) (w : World) (hG : Gl w) (hW : Wt w) :
    Calls Tryd.prog 6 #[.string s, .int .u64 x, .int .i64 many, .int .i64 most, .int .i64 vars] w fun e w' => e = .returned (.bool true) ∧ Below w.heap.size w w' := by
  have HL : Hid (∀ wx, Below w.heap.size w wx → Calls Tryd.prog 7 #[] wx fun e w' => e = .returned (.bool true) ∧ Below w.heap.size w w') := Lib.hid (fun wx hb => (law_lives wx (hG.step hb)).mono fun e w' ⟨h1, h2⟩ => ⟨h1, hb.trans (h2.mono hb.size)⟩)
  by_cases hv0 : vars < 0
  · have HL0 := Lib.hid (HL.out w (Below.refl _ _))
    clear HL hG hW
    go_enter Tryd.func6, Tryd.ntmps6
    go_wp2_with (go_at_call 7; (with_reducible refine HL0.out.mono ?_); rintro e w1 ⟨rfl, hb1⟩; have HB1 := Lib.hid hb1; clear hb1)
    go_ret
    exact ⟨rfl, HB1.out⟩
  by_cases hv1 : 64 < vars
  · have HL0 := Lib.hid (HL.out w (Below.refl _ _))
    clear HL hG hW
    go_enter Tryd.func6, Tryd.ntmps6
    go_wp2_with (go_at_call 7; (with_reducible refine HL0.out.mono ?_); rintro e w1 ⟨rfl, hb1⟩; have HB1 := Lib.hid hb1; clear hb1)
    go_ret
    exact ⟨rfl, HB1.out⟩
  obtain ⟨n, hn⟩ : ∃ n, (nearF many 0 256).toNat = n := ⟨_, rfl⟩
  have hn2 : n ≤ 256 := by rw [← hn]; unfold nearF; split <;> (try split) <;> omega
  obtain ⟨M, hM⟩ : ∃ M, nearF most 1 1048576 = M := ⟨_, rfl⟩
  have hM2 : 1 ≤ M ∧ M ≤ 1048576 := by rw [← hM]; unfold nearF; split <;> (try split) <;> omega
  obtain ⟨L, hL⟩ : ∃ L, spr M vars x n = L := ⟨_, rfl⟩
  have hok : ∀ y, y ∈ L → flT y = 0 ∧ InE y ∧ flawE vars y = 0 := by
    intro y hy
    rw [← hL] at hy
    obtain ⟨z, rfl⟩ := spr_all M vars x n y hy
    exact evOf_ok M vars z hM2.1 hM2.2 (by omega)
  have H17 := Lib.hid (e_Spread x many most vars (by omega) w)
  rw [hn, hM, hL] at H17
  have hLl : L.length ≤ 256 := by rw [← hL, spr_len]; exact hn2
  have hri : rightE vars L = 0 := by
    unfold rightE planR
    rw [if_neg (by omega), if_neg (by omega)]
    exact planF_ok vars L (fun y hy => (hok y hy).2.2)
  have hte := textR_ok L hLl (fun y hy => (hok y hy).1)
  obtain ⟨T, hT⟩ : ∃ T : ByteArray, (⟨(L.flatMap tx).toArray⟩ : ByteArray) = T := ⟨_, rfl⟩
  have hTd : T.data.toList = L.flatMap tx := by rw [← hT]
  have hTs : T.size ≤ 65536 := by
    have := flat_len L (fun y hy => (hok y hy).2.1)
    rw [size_data, hTd]
    omega
  have hev := evs_text T L hTd (fun y hy => ⟨(hok y hy).1, (hok y hy).2.1⟩)
  have H10 : Hid (∀ wx A c, Below w.heap.size w wx → RowG wx wx.heap.size A c (evC L) → Calls Tryd.prog 10 #[.int .i64 vars, .slice A L.length c] wx fun e w' => e = .returned (.int .i64 0) ∧ Below wx.heap.size wx w' ∧ Below w.heap.size w w') := Lib.hid (fun wx A c hb hr => by
    have h := e_Right vars L A c wx hr (by omega)
    rw [hri] at h
    exact h.mono fun e w' ⟨h1, h2⟩ => ⟨h1, h2, hb.trans (h2.mono hb.size)⟩)
  have H8 : Hid (∀ wx A c, Below w.heap.size w wx → RowG wx wx.heap.size A c (evC L) → Calls Tryd.prog 8 #[.slice A L.length c] wx fun e w' => e = .returned (.tuple #[.string T, .int .i64 0]) ∧ Below wx.heap.size wx w' ∧ Below w.heap.size w w') := Lib.hid (fun wx A c hb hr => by
    have h := e_Text L A c wx (hG.step hb) hr (fun y hy => (hok y hy).2.1) (by omega)
    rw [hte] at h
    rw [← hT]
    exact h.mono fun e w' ⟨h1, h2⟩ => ⟨h1, h2, hb.trans (h2.mono hb.size)⟩)
  have H14 : Hid (∀ wx, Below w.heap.size w wx → Calls Tryd.prog 14 #[.string T] wx fun e w' => ∃ A c, e = .returned (.tuple #[.slice A L.length c, .int .i64 0]) ∧ RowG w' w'.heap.size A c (evC L) ∧ Below wx.heap.size wx w' ∧ Below w.heap.size w w') := Lib.hid (fun wx hb => by
    have h := e_ParseAll T wx (hG.step hb) (hW.below hb) hTs
    rw [hev] at h
    refine h.mono ?_
    rintro e w' ⟨A, n, c, v, rfl, (⟨h1, rfl, rfl, h4⟩ | ⟨h1, _⟩), hb2⟩
    · exact ⟨A, c, rfl, h4, hb2, hb.trans (hb2.mono hb.size)⟩
    · exact absurd (by rw [hTd]; exact hte) h1)
  have H16 : Hid (∀ wx A c B d, Below w.heap.size w wx → RowG wx wx.heap.size A c (evC L) → RowG wx wx.heap.size B d (evC L) → Calls Tryd.prog 16 #[.slice A L.length c, .slice B L.length d] wx fun e w' => e = .returned (.bool true) ∧ Below w.heap.size w w') := Lib.hid (fun wx A c B d hb h1 h2 => (l_same h1 h2 (by omega)).mono fun e w' ⟨h1, h2⟩ => ⟨h1, hb.trans (h2.mono hb.size)⟩)
  have HLL := Lib.hid hLl
  have k1 : (vars < 0) = False := by simp; omega
  by_cases hlong : 65536 < s.size
  · have HS : Hid (∀ wx, Below w.heap.size w wx → Calls Tryd.prog 14 #[.string s] wx fun e w' => e = .returned (.tuple #[.slice none 0 0, .int .i64 4]) ∧ Below w.heap.size w w') := Lib.hid (fun wx hb => (e_ParseLong s wx hlong).mono fun e w' ⟨h1, h2⟩ => ⟨h1, hb.trans (h2.mono hb.size)⟩)
    clear hn hn2 hM hM2 hL hok hri hte hT hTd hTs hev hLl hG hW k1 hlong
    go_enter Tryd.func6, Tryd.ntmps6
    go_wp2_with (first
      | (go_at_call 7; have _ := HB6; (with_reducible refine (HL.out _ HB6.out).mono ?_); rintro e w7 ⟨rfl, hb7⟩; have HB7 := Lib.hid hb7; clear hb7)
      | (go_at_call 14; have _ := HB5; (with_reducible refine (HS.out _ HB5.out).mono ?_); rintro e w6 ⟨rfl, hb6⟩; have HB6 := Lib.hid hb6; clear hb6)
      | (go_at_call 16; have _ := HB4; (with_reducible refine (H16.out _ _ _ _ _ HB4.out HR4.out HQ4.out).mono ?_); rintro e w5 ⟨rfl, hb5⟩; have HB5 := Lib.hid hb5; clear hb5)
      | (go_at_call 14; have _ := HB3; (with_reducible refine (H14.out _ HB3.out).mono ?_); rintro e w4 ⟨A4, c4, rfl, hr4, hb4, hB4⟩; have HQ4 := Lib.hid hr4; have HR4 := Lib.hid (HR3.out.step hb4); have HB4 := Lib.hid hB4; clear hb4 hr4 hB4)
      | (go_at_call 8; have _ := HB2; (with_reducible refine (H8.out _ _ _ HB2.out HR2.out).mono ?_); rintro e w3 ⟨rfl, hb3, hB3⟩; have HR3 := Lib.hid (HR2.out.step hb3); have HB3 := Lib.hid hB3; clear hb3 hB3)
      | (go_at_call 10; have _ := HB1; (with_reducible refine (H10.out _ _ _ HB1.out HR1.out).mono ?_); rintro e w2 ⟨rfl, hb2, hB2⟩; have HR2 := Lib.hid (HR1.out.step hb2); have HB2 := Lib.hid hB2; clear hb2 hB2)
      | (go_at_call 17; (with_reducible refine H17.out.mono ?_); rintro e w1 ⟨v1, rfl, ho1, hb1⟩; obtain ⟨A1, c1, rfl, hr1⟩ := own_row ho1; have HR1 := Lib.hid hr1; have HB1 := Lib.hid hb1; clear hb1 hr1 ho1))
    go_ret
    exact ⟨rfl, HB7.out⟩
  by_cases hback : textR (evs s) = (s.data.toList, 0)
  · obtain ⟨K, hK⟩ : ∃ K, evs s = K := ⟨_, rfl⟩
    have HS : Hid (∀ wx, Below w.heap.size w wx → Calls Tryd.prog 14 #[.string s] wx fun e w' => ∃ A c, e = .returned (.tuple #[.slice A K.length c, .int .i64 0]) ∧ RowG w' w'.heap.size A c (evC K) ∧ Below w.heap.size w w') := Lib.hid (fun wx hb => by
      refine (e_ParseAll s wx (hG.step hb) (hW.below hb) (by omega)).mono ?_
      rintro e w' ⟨A, n, c, v, rfl, (⟨h1, rfl, rfl, h4⟩ | ⟨h1, _⟩), hb2⟩
      · rw [hK] at h4 ⊢
        exact ⟨A, c, rfl, h4, hb.trans (hb2.mono hb.size)⟩
      · exact absurd hback h1)
    have H8s : Hid (∀ wx A c, Below w.heap.size w wx → RowG wx wx.heap.size A c (evC K) → Calls Tryd.prog 8 #[.slice A K.length c] wx fun e w' => e = .returned (.tuple #[.string s, .int .i64 0]) ∧ Below w.heap.size w w') := Lib.hid (fun wx A c hb hr => by
      rw [hK] at hback
      have hl := (textR_inv K _ hback).1
      have h := e_Text K A c wx (hG.step hb) hr (by rw [← hK]; exact evs_in s) (by omega)
      rw [hback] at h
      exact h.mono fun e w' ⟨h1, h2⟩ => ⟨h1, hb.trans (h2.mono hb.size)⟩)
    clear hn hn2 hM hM2 hL hok hri hte hT hTd hTs hev hLl hG hW k1 hlong hback hK
    go_enter Tryd.func6, Tryd.ntmps6
    go_wp2_with (first
      | (go_at_call 7; have _ := HB7; (with_reducible refine (HL.out _ HB7.out).mono ?_); rintro e w8 ⟨rfl, hb8⟩; have HB8 := Lib.hid hb8; clear hb8)
      | (go_at_call 8; have _ := HB6; (with_reducible refine (H8s.out _ _ _ HB6.out HR6.out).mono ?_); rintro e w7 ⟨rfl, hb7⟩; have HB7 := Lib.hid hb7; clear hb7)
      | (go_at_call 14; have _ := HB5; (with_reducible refine (HS.out _ HB5.out).mono ?_); rintro e w6 ⟨A6, c6, rfl, hr6, hb6⟩; have HR6 := Lib.hid hr6; have HB6 := Lib.hid hb6; clear hb6 hr6)
      | (go_at_call 16; have _ := HB4; (with_reducible refine (H16.out _ _ _ _ _ HB4.out HR4.out HQ4.out).mono ?_); rintro e w5 ⟨rfl, hb5⟩; have HB5 := Lib.hid hb5; clear hb5)
      | (go_at_call 14; have _ := HB3; (with_reducible refine (H14.out _ HB3.out).mono ?_); rintro e w4 ⟨A4, c4, rfl, hr4, hb4, hB4⟩; have HQ4 := Lib.hid hr4; have HR4 := Lib.hid (HR3.out.step hb4); have HB4 := Lib.hid hB4; clear hb4 hr4 hB4)
      | (go_at_call 8; have _ := HB2; (with_reducible refine (H8.out _ _ _ HB2.out HR2.out).mono ?_); rintro e w3 ⟨rfl, hb3, hB3⟩; have HR3 := Lib.hid (HR2.out.step hb3); have HB3 := Lib.hid hB3; clear hb3 hB3)
      | (go_at_call 10; have _ := HB1; (with_reducible refine (H10.out _ _ _ HB1.out HR1.out).mono ?_); rintro e w2 ⟨rfl, hb2, hB2⟩; have HR2 := Lib.hid (HR1.out.step hb2); have HB2 := Lib.hid hB2; clear hb2 hB2)
      | (go_at_call 17; (with_reducible refine H17.out.mono ?_); rintro e w1 ⟨v1, rfl, ho1, hb1⟩; obtain ⟨A1, c1, rfl, hr1⟩ := own_row ho1; have HR1 := Lib.hid hr1; have HB1 := Lib.hid hb1; clear hb1 hr1 ho1))
    go_ret
    exact ⟨rfl, HB8.out⟩
  · have HS : Hid (∀ wx, Below w.heap.size w wx → Calls Tryd.prog 14 #[.string s] wx fun e w' => e = .returned (.tuple #[.slice none 0 0, .int .i64 3]) ∧ Below w.heap.size w w') := Lib.hid (fun wx hb => by
      refine (e_ParseAll s wx (hG.step hb) (hW.below hb) (by omega)).mono ?_
      rintro e w' ⟨A, n, c, v, rfl, (⟨h1, _⟩ | ⟨_, rfl, rfl, rfl, rfl⟩), hb2⟩
      · exact absurd h1 hback
      · exact ⟨rfl, hb.trans (hb2.mono hb.size)⟩)
    clear hn hn2 hM hM2 hL hok hri hte hT hTd hTs hev hLl hG hW k1 hlong hback
    go_enter Tryd.func6, Tryd.ntmps6
    go_wp2_with (first
      | (go_at_call 7; have _ := HB6; (with_reducible refine (HL.out _ HB6.out).mono ?_); rintro e w7 ⟨rfl, hb7⟩; have HB7 := Lib.hid hb7; clear hb7)
      | (go_at_call 14; have _ := HB5; (with_reducible refine (HS.out _ HB5.out).mono ?_); rintro e w6 ⟨rfl, hb6⟩; have HB6 := Lib.hid hb6; clear hb6)
      | (go_at_call 16; have _ := HB4; (with_reducible refine (H16.out _ _ _ _ _ HB4.out HR4.out HQ4.out).mono ?_); rintro e w5 ⟨rfl, hb5⟩; have HB5 := Lib.hid hb5; clear hb5)
      | (go_at_call 14; have _ := HB3; (with_reducible refine (H14.out _ HB3.out).mono ?_); rintro e w4 ⟨A4, c4, rfl, hr4, hb4, hB4⟩; have HQ4 := Lib.hid hr4; have HR4 := Lib.hid (HR3.out.step hb4); have HB4 := Lib.hid hB4; clear hb4 hr4 hB4)
      | (go_at_call 8; have _ := HB2; (with_reducible refine (H8.out _ _ _ HB2.out HR2.out).mono ?_); rintro e w3 ⟨rfl, hb3, hB3⟩; have HR3 := Lib.hid (HR2.out.step hb3); have HB3 := Lib.hid hB3; clear hb3 hB3)
      | (go_at_call 10; have _ := HB1; (with_reducible refine (H10.out _ _ _ HB1.out HR1.out).mono ?_); rintro e w2 ⟨rfl, hb2, hB2⟩; have HR2 := Lib.hid (HR1.out.step hb2); have HB2 := Lib.hid hB2; clear hb2 hB2)
      | (go_at_call 17; (with_reducible refine H17.out.mono ?_); rintro e w1 ⟨v1, rfl, ho1, hb1⟩; obtain ⟨A1, c1, rfl, hr1⟩ := own_row ho1; have HR1 := Lib.hid hr1; have HB1 := Lib.hid hb1; clear hb1 hr1 ho1))
    go_ret
    exact ⟨rfl, HB7.out⟩
end Go.Proofs.YtfppplalgdopjaaDoor
