/- The contract of With, of layer 30 (terms). -/
import Derived.Test.YtcdpjodnbegepaaNe
namespace Go.Proofs.Ytcdpjodnbegepaa
open Go.RowKit

theorem less_eq (m : ByteArray) (x : Bs) : Op.bytesLess (bs x).toList m.toList = decide (x < key m) := by rw [bytesLess_eq, bs_list, key_list]
theorem less_cases (m : ByteArray) (x : Bs) : (Op.bytesLess (bs x).toList m.toList = true ∧ ¬ key m < x) ∨ (Op.bytesLess (bs x).toList m.toList = false ∧ ((bs x).toList == m.toList) = true ∧ ¬ key m < x) ∨ (Op.bytesLess (bs x).toList m.toList = false ∧ ((bs x).toList == m.toList) = false ∧ key m < x) := by
  rw [less_eq, cmp_eq]
  by_cases h : x < key m
  · exact .inl ⟨decide_eq_true h, fun h2 => List.lt_irrefl _ (List.lt_trans h h2)⟩
  · by_cases e : x = key m
    · exact .inr (.inl ⟨decide_eq_false h, decide_eq_true e, fun h2 => by rw [e] at h2; exact List.lt_irrefl _ h2⟩)
    · refine .inr (.inr ⟨decide_eq_false h, decide_eq_false e, ?_⟩)
      rcases Decidable.em (key m < x) with g | g
      · exact g
      · exact absurd (List.le_antisymm (List.not_lt.1 g) (List.not_lt.1 h)) e
/-- What is still to come of an insertion. -/
def insR (x : Bs) (D : Bool) (o r : List Bs) : List Bs := if D then o ++ r else o ++ insK x r
theorem insR_start (x : Bs) (l : List Bs) : insR x false [] l = insK x l := by unfold insR; simp
theorem insR_done (x : Bs) (o r : List Bs) (y : Bs) : insR x true (o ++ [y]) r = insR x true o (y :: r) := by unfold insR; simp
theorem insR_put (x : Bs) (o r : List Bs) (y : Bs) (h : x < y) : insR x true (o ++ [x] ++ [y]) r = insR x false o (y :: r) := by
  unfold insR insK
  rw [if_pos h]; simp
theorem insR_not (x : Bs) (o r : List Bs) (y : Bs) (h : ¬ x < y) : insR x false (o ++ [y]) r = insR x false o (y :: r) := by
  unfold insR
  conv => rhs; unfold insK
  simp [h]
theorem insR_end (x : Bs) (o : List Bs) : insR x false o [] = o ++ [x] := by unfold insR insK; simp
theorem insR_end2 (x : Bs) (o : List Bs) : insR x true o [] = o := by unfold insR; simp
theorem OwnX.below {w w' : World} {B : Nat} {v : Value} {l : List Bs} (h : OwnX w B v l) (hb : Below w.heap.size w w') : OwnX w' B v l := h.keep hb
theorem OwnX.made (w : World) (B : Nat) (hB : B ≤ w.heap.size) : OwnX (w.alloc (.cells #[] 9)) B (.slice (some ⟨w.heap.size, 0, none⟩) 0 0) [] := World.ownsRow_made w #[] 0 hB (Nat.zero_le _) rfl
set_option maxRecDepth 100000 in
set_option maxHeartbeats 4000000 in
theorem rf_With (l : List Bs) (A : Option Addr) (c : Nat) (m : ByteArray) (w : World) (hT : RT w w.heap.size A l) (hl : l.length ≤ 900000000) :
    Calls Try.prog 58 #[.slice A l.length c, .string m] w (TxP (withK l (key m)) w) := by
  have HT := Lib.hid hT
  have HIN := Lib.hid (rf_In l A c m w hT (by omega))
  have hal : ∀ ob, Below w.heap.size w (w.alloc ob) := fun ob => al (Below.refl _ _) ob
  obtain ⟨q, hq⟩ : ∃ q, decide (key m ∈ l) = q := ⟨_, rfl⟩
  rw [hq] at HIN
  cases q
  · have X : Hid (withK l (key m) = insK (key m) l) := Lib.hid (by unfold withK; rw [if_neg (of_decide_eq_false hq)])
    rw [X.out]
    obtain ⟨R, hR⟩ : ∃ R, insK (key m) l = R := ⟨_, rfl⟩
    have HS : Hid (insR (key m) false [] (l.drop 0) = R) := Lib.hid (by rw [← hR]; exact insR_start _ _)
    rw [hR]
    have HO0 : Hid (OwnX (w.alloc (.cells #[] 9)) w.heap.size (.slice (some ⟨w.heap.size, 0, none⟩) 0 0) [] ∧ Below w.heap.size w (w.alloc (.cells #[] 9))) := Lib.hid ⟨OwnX.made w w.heap.size (Nat.le_refl _), hal _⟩
    clear hq hT hR X hal
    go_enter Try.func58, Try.ntmps58
    go_wp2_with (go_at_call 82; (with_reducible refine HIN.out.mono ?_); rintro e w1 ⟨rfl, rfl⟩)
    go_loopw [5, 6, 7] (fun s5 s6 i wr => ∃ (k : Nat) (D : Bool) (o : List Bs) (A3 : Option Addr) (c3 : Nat), k ≤ l.length ∧ i = .int .i64 (k : Int) ∧ s6 = .bool D ∧ s5 = .slice A3 o.length c3 ∧ ((D = false → o.length ≤ k) ∧ o.length ≤ k + 1) ∧ Hid (OwnX wr w.heap.size (.slice A3 o.length c3) o) ∧ Hid (insR (key m) D o (l.drop k) = R) ∧ Hid (Below w.heap.size w wr)) (fun _ _ i _ => l.length - (intOf i).toNat)
    case atStart => exact ⟨0, false, [], some ⟨w.heap.size, 0, none⟩, 0, Nat.zero_le _, rfl, rfl, rfl, ⟨fun _ => by simp, by simp⟩, Lib.hid HO0.out.1, HS, Lib.hid HO0.out.2⟩
    case round =>
      obtain ⟨k, D, o, A3, c3, hk, rfl, rfl, rfl, hok, HO, HK, HB⟩ := hrel
      by_cases hlt : k < l.length
      · have l1 : (k : Int) < (l.length : Int) := by omega
        have l0 : (0 : Int) ≤ (k : Int) := by omega
        obtain ⟨b, f0, rfl, hbl, hc⟩ := HT.out (by omega)
        have d0 := (HB.out.cell (p := ⟨b, f0 + k, none⟩) hbl).trans (hc k hlt)
        have HHC : Hid (∀ wx, Below w.heap.size w wx → wx.cell? ⟨b, f0 + k, none⟩ = some (.string (bs (tx l k)))) := Lib.hid (fun wx hx => (hx.cell (p := ⟨b, f0 + k, none⟩) hbl).trans (hc k hlt))
        have hkk := HK.out
        rw [tx_drop hlt] at hkk
        clear hc
        have hp := less_cases m (tx l k)
        obtain ⟨hok0, hok⟩ := hok
        generalize tx l k = y at d0 hp hkk HHC
        have hz := HB.out.size
        cases D
        · have hok2 := hok0 rfl
          clear hok0
          rcases hp with ⟨p1, p2⟩ | ⟨p1, p2, p3⟩ | ⟨p1, p2, p3⟩
          · have HK2 : Hid (insR (key m) false (o ++ [y]) (l.drop (k + 1)) = R) := Lib.hid (by rw [insR_not _ _ _ _ p2]; exact hkk)
            clear hkk p2
            go_wp2_with (at_builtin; refine wpList_app_txt rfl _ _ rfl _ w.heap.size o.length _ o rfl rfl (HO.out.keep (al (Below.refl _ _) _)) ⟨wr.heap.size, 0, none⟩ y rfl (cell_one_new wr (.string (bs y)) 9) (by simp; omega) (by omega) ?_; intro A4 c4 w4 hO4 hb4; have HO4 := Lib.hid hO4; have HB4 := Lib.hid (HB.out.trans ((al (Below.refl _ _) _ : Below wr.heap.size wr (wr.alloc (.cells #[.string (bs y)] 9))).mono hz |>.trans hb4)); clear hO4 hb4)
            go_roundw
            case rel => exact ⟨k + 1, false, o ++ [y], A4, c4, by omega, by go_num, rfl, by simp, ⟨fun _ => by simp <;> omega, by simp; omega⟩, Lib.hid (by simpa using HO4.out), HK2, HB4⟩
            case measure => simp [intOf]; try omega
          · have HK2 : Hid (insR (key m) false (o ++ [y]) (l.drop (k + 1)) = R) := Lib.hid (by rw [insR_not _ _ _ _ p3]; exact hkk)
            clear hkk p3
            go_wp2_with (at_builtin; refine wpList_app_txt rfl _ _ rfl _ w.heap.size o.length _ o rfl rfl (HO.out.keep (al (Below.refl _ _) _)) ⟨wr.heap.size, 0, none⟩ y rfl (cell_one_new wr (.string (bs y)) 9) (by simp; omega) (by omega) ?_; intro A4 c4 w4 hO4 hb4; have HO4 := Lib.hid hO4; have HB4 := Lib.hid (HB.out.trans ((al (Below.refl _ _) _ : Below wr.heap.size wr (wr.alloc (.cells #[.string (bs y)] 9))).mono hz |>.trans hb4)); clear hO4 hb4)
            go_roundw
            case rel => exact ⟨k + 1, false, o ++ [y], A4, c4, by omega, by go_num, rfl, by simp, ⟨fun _ => by simp <;> omega, by simp; omega⟩, Lib.hid (by simpa using HO4.out), HK2, HB4⟩
            case measure => simp [intOf]; try omega
          · have HK2 : Hid (insR (key m) true (o ++ [key m] ++ [y]) (l.drop (k + 1)) = R) := Lib.hid (by rw [insR_put _ _ _ _ p3]; exact hkk)
            clear hkk p3
            go_wp2_with (at_builtin; first
              | (refine wpList_app_txt rfl _ _ rfl _ w.heap.size o.length _ o rfl rfl (HO.out.keep (al (Below.refl _ _) _)) ⟨wr.heap.size, 0, none⟩ (key m) rfl (cell_one_new wr (.string m) 9) (by simp; omega) (by omega) ?_; intro A5 c5 w5 hO5 hb5; have hb6 : Below w.heap.size w w5 := HB.out.trans ((al (Below.refl _ _) _ : Below wr.heap.size wr (wr.alloc (.cells #[.string m] 9))).mono hz |>.trans hb5); have d5 := HHC.out w5 hb6; have hz5 := hb6.size; have HO5 := Lib.hid hO5; have HB5 := Lib.hid hb6; clear hO5 hb5 hb6)
              | (refine wpList_app_txt rfl _ _ rfl _ w.heap.size (o.length + 1) _ (o ++ [key m]) (by simp) rfl (HO5.out.keep (al (Below.refl _ _) _)) ⟨w5.heap.size, 0, none⟩ y rfl (cell_one_new w5 (.string (bs y)) 9) (by simp; omega) (by omega) ?_; intro A4 c4 w4 hO4 hb4; have HO4 := Lib.hid hO4; have HB4 := Lib.hid (HB5.out.trans ((al (Below.refl _ _) _ : Below w5.heap.size w5 (w5.alloc (.cells #[.string (bs y)] 9))).mono hz5 |>.trans hb4)); clear hO4 hb4))
            go_roundw
            case rel => exact ⟨k + 1, true, o ++ [key m] ++ [y], A4, c4, by omega, by go_num, rfl, by simp, ⟨fun e => (by cases e), by simp; omega⟩, Lib.hid (by simpa using HO4.out), HK2, HB4⟩
            case measure => simp [intOf]; try omega
        · have HK2 : Hid (insR (key m) true (o ++ [y]) (l.drop (k + 1)) = R) := Lib.hid (by rw [insR_done]; exact hkk)
          clear hkk hp
          go_wp2_with (at_builtin; refine wpList_app_txt rfl _ _ rfl _ w.heap.size o.length _ o rfl rfl (HO.out.keep (al (Below.refl _ _) _)) ⟨wr.heap.size, 0, none⟩ y rfl (cell_one_new wr (.string (bs y)) 9) (by simp; omega) (by omega) ?_; intro A4 c4 w4 hO4 hb4; have HO4 := Lib.hid hO4; have HB4 := Lib.hid (HB.out.trans ((al (Below.refl _ _) _ : Below wr.heap.size wr (wr.alloc (.cells #[.string (bs y)] 9))).mono hz |>.trans hb4)); clear hO4 hb4)
          go_roundw
          case rel => exact ⟨k + 1, true, o ++ [y], A4, c4, by omega, by go_num, rfl, by simp, ⟨fun e => (by cases e), by simp; omega⟩, Lib.hid (by simpa using HO4.out), HK2, HB4⟩
          case measure => simp [intOf]; try omega
      · have l1 : ¬ (k : Int) < (l.length : Int) := by omega
        obtain rfl : k = l.length := by omega
        have hkk := HK.out
        rw [List.drop_length] at hkk
        cases D
        · rw [insR_end] at hkk
          have HKK := Lib.hid hkk
          have hz := HB.out.size
          clear hkk
          go_wp2_with (at_builtin; refine wpList_app_txt rfl _ _ rfl _ w.heap.size o.length _ o rfl rfl (HO.out.keep (al (Below.refl _ _) _)) ⟨wr.heap.size, 0, none⟩ (key m) rfl (cell_one_new wr (.string m) 9) (by simp; omega) (by omega) ?_; intro A4 c4 w4 hO4 hb4; have HO4 := Lib.hid hO4; have HB4 := Lib.hid (HB.out.trans ((al (Below.refl _ _) _ : Below wr.heap.size wr (wr.alloc (.cells #[.string m] 9))).mono hz |>.trans hb4)); clear hO4 hb4)
          go_ret
          rw [← HKK.out]
          have h := HO4.out.form
          obtain ⟨A5, c5, e5, hR5, _⟩ := h
          have e6 : Value.slice A4 (o.length + 1) c4 = .slice A5 (o ++ [key m]).length c5 := e5
          exact ⟨A5, c5, by rw [e6]; rfl, hR5, HB4.out⟩
        · rw [insR_end2] at hkk
          subst hkk
          go_wp2
          go_ret
          obtain ⟨A5, c5, e5, hR5, _⟩ := HO.out.form
          exact ⟨A5, c5, by rw [e5]; rfl, hR5, HB.out⟩
  · have X : Hid (withK l (key m) = l) := Lib.hid (by unfold withK; rw [if_pos (of_decide_eq_true hq)])
    rw [X.out]
    clear hq hT hal
    go_enter Try.func58, Try.ntmps58
    go_wp2_with (go_at_call 82; (with_reducible refine HIN.out.mono ?_); rintro e w1 ⟨rfl, rfl⟩)
    go_ret
    exact ⟨A, c, rfl, HT.out, Below.refl _ _⟩
end Go.Proofs.Ytcdpjodnbegepaa
