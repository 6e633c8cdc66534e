/- The walk of LexiBlanks of layer 29 (lexi), over the translation. -/
import Derived.Test.YtnmofkngengoeaaDoorFng
import Derived.Laws.Concat
import Derived.Test.YtnmofkngengoeaaDoorWk2
namespace Go.Proofs.YtnmofkngengoeaaDoor
open Go.RowKit Go.PlainAid

theorem to_rtn {A : Option Addr} {c n : Nat} {l : List Tk} {w : World} (h : RT w A l) (hn : l.length = n) (hl : n ≤ 100000000) :
    Calls Tryd.prog 12 #[.slice A n c] w fun e w' => ∃ B d, e = .returned (.slice B n d) ∧ RT w' B l ∧ Below w.heap.size w w' := by
  subst hn; exact to_rt h hl
theorem Tb_small {s : ByteArray} {l : List Tk} (h : allS s = .ok l) (f : Nat → Nat) (hf : ∀ i, f i < 5) (hs : s.size ≤ 1500) (hl : l.length ≤ 200) (k : Nat) (hk : k ≤ l.length) : (Tb l f k).size ≤ 3700 := by
  have hb := Tb_bound h f hf k hk
  have hp : posT l k ≤ s.size := by
    rcases Nat.eq_zero_or_pos k with h0 | h0
    · rw [h0]; exact Nat.zero_le _
    · obtain ⟨j, hj⟩ : ∃ j, k = j + 1 := ⟨k - 1, by omega⟩
      rw [hj]; exact ((all_says h).2 j (by omega)).2.2.2.1
  omega
theorem cat_ok (a b : ByteArray) (ha : a.size ≤ 1000000) (hb : b.size ≤ 1000000) (w : World) : (Op.stringOp .add a b).run Tryd.prog w = .ok (.string (a ++ b)) w :=
  run_string_add_sum w a b (by omega)
theorem size_sp (T : ByteArray) (h : T.size ≤ 3700) : (T ++ ({ data := #[32] } : ByteArray)).size ≤ 4000000000000000000 := by
  have h2 : (T ++ ({ data := #[32] } : ByteArray)).size = T.size + 1 := ByteArray.size_append
  omega
theorem all_wr {S : ByteArray} {m : List Tk} {n : Nat} (w : World) (hG : Glob w) (ht : S.size ≤ 4000000000000000000) (hn : m.length = n) (h : allS S = .ok m) :
    Calls Tryd.prog 14 #[.string S] w fun e w' => ∃ A c, e = .returned (.tuple #[.slice A n c, .int .i64 0, .int .i64 0]) ∧ RT w' A m ∧ Below w.heap.size w w' := by
  subst hn
  refine (lx_All S w hG ht).mono fun e w' hR => ?_
  obtain ⟨A, c, h1, h2, h3, _⟩ := all_ok hR h
  exact ⟨A, c, h1, h2, h3⟩
/-- What the law picks for the i-th token. -/
def pkA (pl : List Int) (i : Nat) : Int := if pl.length = 0 then 0 else pl.getD (i % pl.length) 0
def pkF (pl : List Int) (i : Nat) : Nat := (pkA pl i).toNat % 5
theorem pkF_lt (pl : List Int) (i : Nat) : pkF pl i < 5 := Nat.mod_lt _ (by decide)
set_option maxRecDepth 100000 in
set_option maxHeartbeats 16000000 in
theorem lexiBlanks_walk (s : ByteArray) (A : Option Addr) (cp : Nat) (pl : List Int) (w : World) (hG : Glob w) (hU : U8 w w.heap.size A pl) (hn : ∀ x ∈ pl, 0 ≤ x ∧ x ≤ 255) :
    Calls Tryd.prog 7 #[.string s, .slice A pl.length cp] w fun e w' => e = .returned (.bool true) ∧ Below w.heap.size w w' := by
  have HG := Lib.hid hG
  have HU := Lib.hid hU
  have HN := Lib.hid hn
  clear hG hU hn
  by_cases hl : 1500 < s.size
  · have hl' : (1500 : Int) < (s.size : Int) := by omega
    go_enter Tryd.func7, Tryd.ntmps7
    go_wp2_with (go_at_call 8; refine (law_lives w HG.out).mono ?_; rintro e w2 ⟨rfl, hb2⟩)
    go_ret
    exact ⟨rfl, hb2⟩
  have hl' : ¬ (1500 : Int) < (s.size : Int) := by omega
  by_cases hp : 40 < pl.length
  · have hp' : (40 : Int) < (pl.length : Int) := by omega
    go_enter Tryd.func7, Tryd.ntmps7
    go_wp2_with (go_at_call 8; refine (law_lives w HG.out).mono ?_; rintro e w2 ⟨rfl, hb2⟩)
    go_ret
    exact ⟨rfl, hb2⟩
  have hp' : ¬ (40 : Int) < (pl.length : Int) := by omega
  have HA := Lib.hid (lx_All s w HG.out (by omega))
  cases hs : allS s with
  | er a c =>
    have hc := all_ne hs
    have hcb : (c == 0) = false := by simp [hc]
    have hcn : (c != 0) = true := by simp [hc]
    have HA2 : Hid (Calls Tryd.prog 14 #[.string s] w fun e w' => e = .returned (.tuple #[.slice none 0 0, .int .i64 (a : Int), .int .i64 c]) ∧ Below w.heap.size w w') := Lib.hid (HA.out.mono fun e w' h => all_er h hs)
    clear HA hs
    go_enter Tryd.func7, Tryd.ntmps7
    go_wp2_with (first | (go_at_call 14; refine HA2.out.mono ?_; rintro e w1 ⟨rfl, hb1⟩) | (go_at_call 8; refine (law_lives _ (HG.out.step hb1)).mono ?_; rintro e w2 ⟨rfl, hb2⟩))
    go_ret
    exact ⟨rfl, bt hb1 hb2⟩
  | ok l =>
    have HA2 : Hid (Calls Tryd.prog 14 #[.string s] w fun e w' => ∃ A c, e = .returned (.tuple #[.slice A l.length c, .int .i64 0, .int .i64 0]) ∧ RT w' A l ∧ Below w.heap.size w w' ∧ l.length ≤ s.size) := Lib.hid (HA.out.mono fun e w' h => by
      obtain ⟨A, c, h1, h2, h3, h4⟩ := all_ok h hs
      exact ⟨A, c, h1, h2, h3, h4⟩)
    by_cases hl2 : 200 < l.length
    · have hl3 : (200 : Int) < (l.length : Int) := by omega
      clear HA hs
      go_enter Tryd.func7, Tryd.ntmps7
      go_wp2_with (first | (go_at_call 14; refine HA2.out.mono ?_; rintro e w1 ⟨A1, c1, rfl, hr1, hb1, hl1⟩) | (go_at_call 8; refine (law_lives _ (HG.out.step hb1)).mono ?_; rintro e w2 ⟨rfl, hb2⟩))
      go_ret
      exact ⟨rfl, bt hb1 hb2⟩
    have hl3 : ¬ (200 : Int) < (l.length : Int) := by omega
    have HT : Hid (∀ i, i < l.length → Tok (tkAt l i).1 (tkAt l i).2.1 (tkAt l i).2.2.1 ∧ (tkAt l i).2.2.1.size ≤ s.size) := Lib.hid (fun i hi => ⟨all_toks hs i hi, by obtain ⟨_, _, g3, g4, _⟩ := (all_says hs).2 i hi; omega⟩)
    have haw := all_written hs (pkF pl) (pkF_lt pl) (by omega) (by omega)
    obtain ⟨F, hF⟩ : ∃ F, pkF pl = F := ⟨_, rfl⟩
    have HF : Hid (∀ i, F i = (pkA pl i).toNat % 5) := Lib.hid (fun i => by rw [← hF]; rfl)
    have HTS := Lib.hid (Tb_small hs (pkF pl) (pkF_lt pl) (by omega) (by omega))
    rw [hF] at haw HTS
    have HF5 : Hid (∀ i, F i < 5) := Lib.hid (fun i => by rw [← hF]; exact pkF_lt pl i)
    obtain ⟨m, hm⟩ : ∃ m, Tl l F l.length = m := ⟨_, rfl⟩
    have HML : Hid (m.length = l.length) := Lib.hid (by rw [← hm]; exact Tl_length _ _ _)
    have HME : Hid (∀ k, k < l.length → (tkAt m k).1 = (tkAt l k).1 ∧ (tkAt m k).2.1 = (tkAt l k).2.1 ∧ (tkAt m k).2.2.1 = (tkAt l k).2.2.1) := Lib.hid (fun k hk => by
      rw [← hm, Tl_at _ _ _ _ hk]; exact ⟨rfl, rfl, rfl⟩)
    rw [hm] at haw
    obtain ⟨haw1, haw2⟩ := haw
    obtain ⟨T, hT⟩ : ∃ T, Tb l F l.length = T := ⟨_, rfl⟩
    have HTB := Lib.hid hT
    rw [hT] at haw1 haw2
    have HB14 : Hid (∀ w, Glob w → Calls Tryd.prog 14 #[.string (T ++ { data := #[32] })] w fun e w' => ∃ A c, e = .returned (.tuple #[.slice A l.length c, .int .i64 0, .int .i64 0]) ∧ RT w' A m ∧ Below w.heap.size w w') := Lib.hid (fun w hG => all_wr w hG (size_sp T haw2) HML.out haw1)
    clear HA hs haw1 haw2 hm hT hF
    go_enter Tryd.func7, Tryd.ntmps7
    go_wp2_with (go_at_call 14; refine HA2.out.mono ?_; rintro e w1 ⟨A1, c1, rfl, hr1, hb1, hl1⟩; have HR1 := Lib.hid hr1; clear hr1)
    go_loopw [8, 9] (fun t i wr => ∃ k : Nat, k ≤ l.length ∧ i = .int .i64 (k : Int) ∧ t = .string (Tb l F k) ∧ Below w1.heap.size w1 wr) (fun _ i _ => l.length - (intOf i).toNat)
    case atStart => exact ⟨0, Nat.zero_le _, rfl, rfl, Below.refl _ _⟩
    case round =>
      obtain ⟨k, hk, rfl, rfl, hb⟩ := hrel
      by_cases hlt : k < l.length
      · have h1 : (k : Int) < (l.length : Int) := by omega
        obtain ⟨b, rfl, hB, hc⟩ := HR1.out (by omega)
        obtain ⟨_, _, c2, _⟩ := hc k hlt
        have hys := HTS.out k (by omega)
        have hxs := (HT.out k hlt).2
        have hbs := bl_le (F k) (HF5.out k)
        clear hc
        have hsucc : Tb l F (k + 1) = (Tb l F k ++ blA (F k)) ++ (tkAt l k).2.2.1 := rfl
        generalize (tkAt l k).2.2.1 = x at *
        obtain ⟨y, hy⟩ : ∃ y, Tb l F k = y := ⟨_, rfl⟩
        rw [hy] at hsucc hys ⊢
        have hcat1 := cat_ok y (blA (F k)) (by omega) (by omega)
        have hcat2 := cat_ok (y ++ blA (F k)) x (by rw [ByteArray.size_append]; omega) (by omega)
        clear hys hxs hbs
        have HSU := Lib.hid hsucc
        have HBD := Lib.hid (Below.drew hb)
        have d2 := (HBD.out.cell (p := ⟨b, k * 4 + 2, none⟩) hB).trans c2
        have q2 := (hb.cell (p := ⟨b, k * 4 + 2, none⟩) hB).trans c2
        have HC2 := Lib.hid c2
        have hF := HF.out k
        clear hsucc hy c2
        by_cases hp0 : pl.length = 0
        · have g1 : ¬ (0 : Int) < (pl.length : Int) := by omega
          have g1' : ¬ 0 < pl.length := by omega
          have HBK : Hid (∀ w, Calls Tryd.prog 22 #[.int .u8 0] w fun e w' => e = .returned (.string (blA (F k))) ∧ Below w.heap.size w w') := Lib.hid (fun w => by
            have h := law_blank 0 w (by decide) (by decide)
            have e : pkA pl k = 0 := by unfold pkA; rw [if_pos hp0]
            rw [hF, e]; exact h)
          clear hF hp0
          go_wp2_with fail
          go_region_held3 (fun wx => wx.cell? ⟨b, k * 4 + 2, none⟩ = some (.string x)) (first | exact d2 | exact q2 | exact e2 | go_keep) (first
            | (go_at_call 22; refine (HBK.out _).mono ?_; rintro e w2 ⟨rfl, hb2⟩; have hb3 := HBD.out.trans (hb2.mono HBD.out.size); have HB3 := Lib.hid hb3; have e2 := (hb3.cell (p := ⟨b, k * 4 + 2, none⟩) hB).trans HC2.out; clear hb2 hb3))
          clear d2 q2 e2
          go_wp2
          go_roundw
          case rel => exact ⟨k + 1, by omega, by go_num, by rw [HSU.out], by first | exact HB3.out | exact HB3.out.drew⟩
          case measure => simp [intOf]; try omega
        · have g1 : (0 : Int) < (pl.length : Int) := by omega
          obtain ⟨pb, off, rfl, hpb, hpc⟩ := HU.out (by omega)
          obtain ⟨j, hj⟩ : ∃ j, k % pl.length = j := ⟨_, rfl⟩
          have hjl : j < pl.length := by rw [← hj]; exact Nat.mod_lt _ (by omega)
          have g2 : (k : Int).tmod (pl.length : Int) = (j : Int) := by rw [Int.tmod_eq_emod_of_nonneg (by omega), ← hj]; rfl
          have g3 : ((pl.length : Int) == 0) = false := by rw [beq_eq_false_iff_ne]; omega
          have g4 : (j : Int) < (pl.length : Int) := by omega
          have hjx : pl[j]? = some (pl.getD j 0) := by rw [List.getD_eq_getElem?_getD, List.getElem?_eq_getElem hjl]; rfl
          have hbnd := HN.out (pl.getD j 0) (List.mem_of_getElem? hjx)
          have hpw := ((hb1.trans (hb.mono hb1.size)).cell (p := ⟨pb, off + j, none⟩) hpb).trans (hpc j _ hjx)
          have e : pkA pl k = pl.getD j 0 := by unfold pkA; rw [if_neg hp0, hj]
          rw [e] at hF
          clear e hpc hjx
          generalize pl.getD j 0 = z at *
          have HBK : Hid (∀ w, Calls Tryd.prog 22 #[.int .u8 z] w fun e w' => e = .returned (.string (blA (F k))) ∧ Below w.heap.size w w') := Lib.hid (fun w => by
            have h := law_blank z w hbnd.1 hbnd.2
            rw [hF]; exact h)
          clear hF hj hbnd
          go_wp2_with fail
          go_region_held3 (fun wx => wx.cell? ⟨b, k * 4 + 2, none⟩ = some (.string x)) (first | exact d2 | exact q2 | exact e2 | go_keep) (first
            | (go_at_call 22; refine (HBK.out _).mono ?_; rintro e w2 ⟨rfl, hb2⟩; have hb3 := HBD.out.trans (hb2.mono HBD.out.size); have HB3 := Lib.hid hb3; have e2 := (hb3.cell (p := ⟨b, k * 4 + 2, none⟩) hB).trans HC2.out; clear hb2 hb3))
          clear d2 q2 e2
          go_wp2
          go_roundw
          case rel => exact ⟨k + 1, by omega, by go_num, by rw [HSU.out], by first | exact HB3.out | exact HB3.out.drew⟩
          case measure => simp [intOf]; try omega
      · obtain rfl : k = l.length := by omega
        have h1 : ¬ (l.length : Int) < (l.length : Int) := by omega
        have hb01 := hb1.trans (hb.mono hb1.size)
        rw [HTB.out]
        have hTs := HTS.out l.length (Nat.le_refl _)
        rw [HTB.out] at hTs
        have hcat3 := cat_ok T { data := #[32] } (by omega) (by decide)
        clear hTs
        have HGW : Hid (Glob wr) := Lib.hid (HG.out.step hb01)
        have HR2 : Hid (RT wr A1 l) := Lib.hid (RT.step (RT.step HR1.out (Below.refl _ _)) hb)
        have HB01 := Lib.hid hb01
        clear hb01
        go_wp2_with (first
          | (go_at_call 11; refine (rf_SameF B4 B5 d4 d5 l m _ (HR4.out.step HB45.out) HR5.out (by omega) HML.out HME.out).mono ?_; rintro e w6 ⟨rfl, hb6⟩; have HB56 := Lib.hid hb6; have HB6 := Lib.hid (bt HB5.out hb6); clear hb6)
          | (go_at_call 12; have _ := HR4; refine (to_rtn (HR3.out.step HB34.out) HML.out (by omega)).mono ?_; rintro e w5 ⟨B5, d5, rfl, hr5, hb5⟩; have HR5 := Lib.hid hr5; have HB45 := Lib.hid hb5; have HB5 := Lib.hid (bt HB4.out hb5); clear hr5 hb5)
          | (go_at_call 12; refine (to_rtn (HR2.out.step HB23.out) rfl (by omega)).mono ?_; rintro e w4 ⟨B4, d4, rfl, hr4, hb4⟩; have HR4 := Lib.hid hr4; have HB34 := Lib.hid hb4; have HB4 := Lib.hid (bt HB3.out hb4); clear hr4 hb4)
          | (go_at_call 14; refine (HB14.out _ HGW.out).mono ?_; rintro e w3 ⟨A3, c3, rfl, hr3, hb3⟩; have HR3 := Lib.hid hr3; have HB23 := Lib.hid hb3; have HB3 := Lib.hid (bt HB01.out hb3); clear hr3 hb3))
        have HW16 := Lib.hid (bt (bt (bt (bt hb HB23.out) HB34.out) HB45.out) HB56.out)
        go_loopw [14] (fun i wr => ∃ k : Nat, k ≤ l.length ∧ i = .int .i64 (k : Int) ∧ Below w6.heap.size w6 wr) (fun i _ => l.length - (intOf i).toNat)
        case atStart => exact ⟨0, Nat.zero_le _, rfl, Below.refl _ _⟩
        case round =>
          obtain ⟨k, hk, rfl, hb7⟩ := hrel
          have HB7 := Lib.hid (bt HB6.out hb7)
          by_cases hlt : k < l.length
          · have h1 : (k : Int) < (l.length : Int) := by omega
            obtain ⟨htk, hxs⟩ := HT.out k hlt
            obtain ⟨b, rfl, hB, hc⟩ := HR1.out (by omega)
            obtain ⟨c0, _, c2, _⟩ := hc k hlt
            clear hc
            generalize tkAt l k = t at *
            obtain ⟨t1, t2, x, a⟩ := t
            dsimp only at htk hxs c0 c2
            have hw1 : Below w1.heap.size w1 wr := bt HW16.out hb7
            have d0 := (hw1.cell (p := ⟨b, k * 4, none⟩) hB).trans c0
            have d2 := (hw1.cell (p := ⟨b, k * 4 + 2, none⟩) hB).trans c2
            have HN9 : Hid (∀ w, Glob w → Calls Tryd.prog 9 #[.string x, .int .i64 0] w fun e w' => e = .returned (.tuple #[.agg #[.int .i64 t1, .int .i64 t2, .string x, .int .i64 0], .int .i64 (x.size : Int), .int .i64 0]) ∧ Below w.heap.size w w') := Lib.hid (fun w hG => by
              have h := lx_Next x 0 w hG (by omega) (Nat.zero_le _)
              rw [(tok_self htk).1] at h
              exact h)
            have HIS : Hid (∀ w, Glob w → Calls Tryd.prog 16 #[.string x] w fun e w' => e = .returned (.bool (t1 == 2)) ∧ w' = w) := Lib.hid (fun w hG => by
              have h := lx_Is x w hG
              rw [tok_is htk] at h
              exact h.mono fun _ _ h => ⟨h.1, h.2.symm⟩)
            clear htk
            obtain ⟨q, hq⟩ : ∃ q, (t1 == 2) = q := ⟨_, rfl⟩
            rw [hq] at HIS
            cases q
            all_goals
              go_upto_region 21 with (go_at_call 9; refine (HN9.out _ (HG.out.step HB7.out)).mono ?_; rintro e w8 ⟨rfl, hb8⟩; have HB8 := Lib.hid (bt hb7 hb8); have HB18 := Lib.hid (bt hw1 hb8); have HB08 := Lib.hid (bt HB7.out hb8); clear hb8)
              have e0 := (HB18.out.cell (p := ⟨b, k * 4, none⟩) hB).trans c0
              have e2 := (HB18.out.cell (p := ⟨b, k * 4 + 2, none⟩) hB).trans c2
              have HB9 := Lib.hid (al HB8.out (.cells #[.int .i64 t1, .int .i64 t2, .string x, .int .i64 0] 24))
              have HGQ : Hid (∀ n, Glob ((w8.alloc (.cells #[.int .i64 t1, .int .i64 t2, .string x, .int .i64 0] 24)).drewN n)) := Lib.hid (fun n => HG.out.step (below_drewN (al HB08.out _) n))
              have hlt2 : b < w8.heap.size := Nat.lt_of_lt_of_le hB HB18.out.size
              clear d0 d2 c0 c2
              go_quiet ((go_at_call 16; exact Calls.quiet_of_same (HIS.out _ (HGQ.out _))))
              go_wp2
              go_roundw
              case rel => exact ⟨k + 1, by omega, by go_num, below_drewN HB9.out _⟩
              case measure => simp [intOf]; try omega
          · obtain rfl : k = l.length := by omega
            have h1 : ¬ (l.length : Int) < (l.length : Int) := by omega
            go_wp2_with (go_at_call 8; refine (law_lives _ (HG.out.step HB7.out)).mono ?_; rintro e w8 ⟨rfl, hb8⟩)
            go_ret
            exact ⟨rfl, bt HB7.out hb8⟩
end Go.Proofs.YtnmofkngengoeaaDoor
