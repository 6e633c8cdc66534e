/- The specification's Parse; layer 28 (events). -/
import Derived.Test.YtfppplalgdopjaaDoorFd
namespace Go.Proofs.YtfppplalgdopjaaDoor
open Go.RowKit Go.PlainAid

noncomputable def lnB (cur : List UInt8) : Ev × Bool := lnG ⟨cur.toArray⟩ 3
/-- The specification's Parse on bytes: cur is the line so far, n the number of events so far. -/
noncomputable def pg : List UInt8 → List UInt8 → Nat → Option (List Ev)
  | cur, [], _ => if cur = [] then some [] else none
  | cur, b :: t, n => if b = 10 then (if (lnB cur).2 = true ∧ n ≠ 256 then (pg [] t (n + 1)).map ((lnB cur).1 :: ·) else none) else pg (cur ++ [b]) t n
def ParR (w : World) (R : Option (List Ev)) (e : Ending) (w' : World) : Prop :=
  (∃ v L, R = some L ∧ e = .returned (.tuple #[v, .int .i64 0]) ∧ OwnE w' w.heap.size v L.length L ∧ Below w.heap.size w w') ∨ (R = none ∧ e = .returned (.tuple #[.slice none 0 0, .int .i64 3]) ∧ Below w.heap.size w w')
theorem cur_ext (s : ByteArray) (f k : Nat) : (⟨((s.data.toList.drop f).take (k - f)).toArray⟩ : ByteArray) = s.extract f k := by
  apply ByteArray.ext
  apply Array.toList_inj.1
  rw [ext_data]
theorem cur_snoc (l : List UInt8) (f k : Nat) (b : UInt8) (hf : f ≤ k) (hb : l[k]? = some b) : (l.drop f).take (k - f) ++ [b] = (l.drop f).take (k + 1 - f) := by
  have hlt : k < l.length := by
    rcases Nat.lt_or_ge k l.length with c | c
    · exact c
    · rw [List.getElem?_eq_none c] at hb; cases hb
  rw [show k + 1 - f = (k - f) + 1 by omega, List.take_add_one, List.getElem?_drop, show f + (k - f) = k by omega, hb]
  rfl
theorem r_ParseLong (s : ByteArray) (w : World) (hs : 65536 < s.size) :
    Calls Tryd.prog 15 #[.string s] w fun e w' => e = .returned (.tuple #[.slice none 0 0, .int .i64 4]) ∧ Below w.heap.size w w' := by
  have l1 : (65536 : Int) < (s.size : Int) := by omega
  go_enter Tryd.func15, Tryd.ntmps15
  go_wp2
  go_ret2
  exact ⟨rfl, Below.refl _ _⟩
set_option maxRecDepth 100000 in
set_option maxHeartbeats 8000000 in
theorem r_Parse (s : ByteArray) (w : World) (hs : s.size ≤ 65536) : Calls Tryd.prog 15 #[.string s] w (ParR w (pg [] s.data.toList 0)) := by
  obtain ⟨Rr, hRr⟩ : ∃ Rr, pg [] s.data.toList 0 = Rr := ⟨_, rfl⟩
  rw [hRr]
  have l1 : ¬ (65536 : Int) < (s.size : Int) := by omega
  have hg := get_bt s
  have H0 : Hid (OwnE w w.heap.size (.slice none 0 0) 0 []) := Lib.hid ⟨rfl, rfl, .inl ⟨rfl, rfl⟩⟩
  have HR0 : Hid (Rr = (pg ((s.data.toList.drop 0).take (0 - 0)) (s.data.toList.drop 0) 0).map ([] ++ ·)) := Lib.hid (by rw [← hRr]; simp)
  have HL : Hid (∀ (f k : Nat) (wx : World), Calls Tryd.prog 30 #[.string (s.extract f k)] wx (LnP wx (lnB ((s.data.toList.drop f).take (k - f))))) := Lib.hid (fun f k wx => by
    unfold lnB
    rw [cur_ext]
    exact r_line _ wx (by rw [ByteArray.size_extract]; omega))
  have HSZ : Hid (s.size = s.data.toList.length) := Lib.hid rfl
  have HBT := Lib.hid (bt_get s)
  clear hRr
  go_enter Tryd.func15, Tryd.ntmps15
  go_wp2
  go_loopw [4, 5, 6] (fun v f i wr => ∃ (k from_ n : Nat) (L : List Ev), k ≤ s.size ∧ from_ ≤ k ∧ n ≤ 256 ∧ i = .int .i64 (k : Int) ∧ f = .int .i64 (from_ : Int) ∧ Hid (OwnE wr w.heap.size v n L) ∧ Hid (Rr = (pg ((s.data.toList.drop from_).take (k - from_)) (s.data.toList.drop k) n).map (L ++ ·)) ∧ Hid (Below w.heap.size w wr)) (fun _ _ i _ => s.size - (intOf i).toNat)
  case atStart => exact ⟨0, 0, 0, [], Nat.zero_le _, Nat.le_refl _, by omega, rfl, rfl, H0, HR0, Lib.hid (Below.refl _ _)⟩
  case round =>
    obtain ⟨k, f, n, L, hk, hfk, hn, rfl, rfl, HO, HR, HB⟩ := hrel
    by_cases hlt : k < s.size
    · have j1 : (k : Int) < (s.size : Int) := by omega
      have j2 : (0 : Int) ≤ (k : Int) := by omega
      have wk : IntKind.i64.wrap ((k : Int) + 1) = (k : Int) + 1 := by rw [IntKind.wrap_i64]; omega
      obtain ⟨b, hb, hbt⟩ := HBT.out k hlt
      have hdr : s.data.toList.drop k = b :: s.data.toList.drop (k + 1) := by
        have hk' : k < s.data.toList.length := by rw [← HSZ.out]; exact hlt
        rw [List.drop_eq_getElem_cons hk']
        rw [List.getElem?_eq_getElem hk'] at hb
        rw [Option.some.inj hb]
      by_cases h10 : b = 10
      · have hne : (bt s k != 10) = false := by rw [hbt, h10]; rfl
        have hst := HR.out
        rw [hdr, pg, if_pos h10] at hst
        have f1 : (0 : Int) ≤ (f : Int) := by omega
        have f2 : (f : Int) ≤ (k : Int) := by omega
        have f3 : (k : Int) ≤ (s.size : Int) := by omega
        have HL1 := Lib.hid (HL.out f k wr)
        obtain ⟨C, hC⟩ : ∃ C, (s.data.toList.drop f).take (k - f) = C := ⟨_, rfl⟩
        rw [hC] at hst HL1
        obtain ⟨Z, hZ⟩ : ∃ Z, lnB C = Z := ⟨_, rfl⟩
        rw [hZ] at hst HL1
        have HST := Lib.hid hst
        obtain ⟨⟨xa, xk, xl⟩, ok⟩ := Z
        have HL2 : Hid (Calls Tryd.prog 30 #[.string (s.extract f k)] wr fun e w' => e = .returned (.tuple #[.agg #[.int .i64 xa, .int .i64 xk, .int .i64 xl], .bool ok]) ∧ Below wr.heap.size wr w') := HL1
        clear hst hdr hC hZ h10 hb hbt HL1 HR
        cases ok
        · have HN : Hid (Rr = none) := Lib.hid (by rw [HST.out]; simp)
          go_wp2_with (go_at_call 30; (with_reducible refine HL2.out.mono ?_); rintro e w5 ⟨rfl, hb5⟩; have HB5 := Lib.hid (HB.out.trans (hb5.mono HB.out.size)); clear hb5)
          go_ret2
          exact .inr ⟨HN.out, rfl, HB5.out.alloc HB5.out.size _⟩
        · by_cases hfull : n = 256
          · have HN : Hid (Rr = none) := Lib.hid (by rw [HST.out, hfull]; simp)
            obtain ⟨A, c, rfl, _⟩ := RowG.own (by decide) HO.out.2
            have hq : ((n : Int) == 256) = true := by simp [hfull]
            go_wp2_with (go_at_call 30; (with_reducible refine HL2.out.mono ?_); rintro e w5 ⟨rfl, hb5⟩; have HB5 := Lib.hid (HB.out.trans (hb5.mono HB.out.size)); clear hb5)
            go_ret2
            exact .inr ⟨HN.out, rfl, HB5.out.alloc HB5.out.size _⟩
          · have HN : Hid (Rr = (pg ((s.data.toList.drop (k + 1)).take (k + 1 - (k + 1))) (s.data.toList.drop (k + 1)) (n + 1)).map ((L ++ [⟨xa, xk, xl⟩]) ++ ·)) := Lib.hid (by
              rw [HST.out, if_pos ⟨rfl, hfull⟩, Nat.sub_self, List.take_zero, Option.map_map]
              congr 1
              funext y
              simp)
            obtain ⟨A, c, rfl, _⟩ := RowG.own (by decide) HO.out.2
            have hq : ((n : Int) == 256) = false := by simp; omega
            have hn6 : n ≤ 1000000 := by omega
            go_upto_region 10 with (go_at_call 30; (with_reducible refine HL2.out.mono ?_); rintro e w5 ⟨rfl, hb5⟩; have HB5 := Lib.hid (HB.out.trans (hb5.mono HB.out.size)); have HO5 : Hid (OwnE w5 w.heap.size (.slice A n c) n L) := Lib.hid ⟨HO.out.1, own_keep HO.out.2 hb5⟩; clear hb5)
            have HW : Hid (∀ o, OwnE (w5.alloc o) w.heap.size (.slice A n c) n L ∧ w.heap.size ≤ (w5.alloc o).heap.size ∧ Below w.heap.size w (w5.alloc o)) := Lib.hid (fun o => ⟨⟨HO5.out.1, own_keep HO5.out.2 (below_al _)⟩, by have := HB5.out.size; simp; omega, HB5.out.alloc HB5.out.size _⟩)
            go_upto_region 13 with (at_builtin; (refine wpList_app_ev rfl (.tmp 37) (.tmp 39) rfl (w5.alloc (.cells #[.int .i64 xa, .int .i64 xk, .int .i64 xl] 47)) w.heap.size n (.slice A n c) L rfl (HW.out _).1 xa xk xl (w5.heap.size + 1) (by simp) rfl (HW.out _).2.1 hn6 ?_); intro v4 w4 hO4 hb4; have HO2 := Lib.hid hO4; have HB2 := Lib.hid ((HW.out _).2.2.trans hb4); clear hO4 hb4)
            go_wp2
            go_roundw
            case rel => exact ⟨k + 1, k + 1, n + 1, _, by omega, Nat.le_refl _, by omega, by go_num, by go_num, HO2, HN, HB2⟩
            case measure => simp [intOf]; omega
      · have hne : (bt s k != 10) = true := by
          rw [hbt]
          simp only [bne_iff_ne, ne_eq]
          intro h
          apply h10
          apply UInt8.toNat_inj.1
          show b.toNat = 10
          omega
        have HN : Hid (Rr = (pg ((s.data.toList.drop f).take (k + 1 - f)) (s.data.toList.drop (k + 1)) n).map (L ++ ·)) := Lib.hid (by
          rw [HR.out, hdr, pg, if_neg h10, cur_snoc _ f k b hfk hb])
        clear hdr hb hbt h10 HR
        go_wp2
        go_roundw
        case rel => exact ⟨k + 1, f, n, L, by omega, by omega, hn, by go_num, rfl, HO, HN, HB⟩
        case measure => simp [intOf]; omega
    · obtain rfl : k = s.size := by omega
      have j1 : ¬ (s.size : Int) < (s.size : Int) := by omega
      have hst := HR.out
      have hd : s.data.toList.drop s.size = [] := List.drop_eq_nil_of_le (Nat.le_refl _)
      rw [hd, pg] at hst
      by_cases hf : f = s.size
      · have HN : Hid (Rr = some L) := Lib.hid (by rw [hst, hf]; simp)
        have hq : ((f : Int) != (s.size : Int)) = false := by simp [hf]
        clear hst hf HR
        go_wp2
        go_ret2
        exact .inl ⟨_, _, HN.out, rfl, by rw [HO.out.1]; exact HO.out, HB.out⟩
      · have hl0 : (s.data.toList.drop f).take (s.size - f) ≠ [] := by
          intro h
          have h2 := congrArg List.length h
          rw [List.length_take, List.length_drop, ← HSZ.out] at h2
          simp at h2
          omega
        have HN : Hid (Rr = none) := Lib.hid (by rw [hst, if_neg hl0]; rfl)
        have hq : ((f : Int) != (s.size : Int)) = true := by simp; omega
        clear hst hf HR hl0
        go_wp2
        go_ret2
        exact .inr ⟨HN.out, rfl, HB.out⟩
end Go.Proofs.YtfppplalgdopjaaDoor
