/- The specification's parser of layer 7 (ptext): expr with parentheses. -/
import Derived.Test.YtipapemcedkinaaPf
namespace Go.Proofs.Ytipapemcedkinaa
open Go.RowKit Go.PlainAid

theorem al' {B : Nat} {w w1 : World} (h : Below B w w1) (o : Obj) (hB : B ≤ w.heap.size := by omega) : Below B w (w1.alloc o) := h.trans ((balw w1 o).mono (by have := h.size; omega))
set_option maxRecDepth 100000 in
set_option maxHeartbeats 16000000 in
theorem r_paren (s : ByteArray) (hs : s.size ≤ 65536) (n : Nat)
    (IH : ∀ f k w, f ≤ n → k ≤ s.size → 2 * (s.size - k) + 2 ≤ f → Calls Try.prog 17 #[.string s, .int .i64 (k : Int)] w (GX w (exprF s f k)))
    (k : Nat) (w : World) (hk : k < s.size) (f : Nat) (hfn : f ≤ n) (hf : 2 * (s.size - k) + 1 ≤ f) (hc : Go.PlainAid.bt s k = 40) (R : XR)
    (hR1 : opF (Go.PlainAid.bt s (k + 1)) = 0 → R = .bad (k + 1)) (hR2 : opF (Go.PlainAid.bt s (k + 1)) ≠ 0 → kidsF s f (opF (Go.PlainAid.bt s (k + 1))) (k + 1 + 1) [] = R) :
    Calls Try.prog 17 #[.string s, .int .i64 (k : Int)] w (GX w R) := by
  have hb := get_bt s
  have hb2 := get_bt sgT
  have hsg : sgT.size = 7 := rfl
  have HSG : Hid (∀ w, Calls Try.prog 32 #[] w fun e w' => e = .returned (.string sgT) ∧ w' = w) := Lib.hid r_signs
  have HSI := Lib.hid (fun i hi => sg_is (Go.PlainAid.bt s (k + 1)) (i := i) hi)
  generalize sgT = sg at *
  obtain ⟨W0, hW0⟩ : ∃ W, w.alloc (.cells gotZ 47) = W := ⟨_, rfl⟩
  have he := EntG.mk' w
  rw [hW0] at he
  have HE := Lib.hid he
  have HI := Lib.hid IH
  have HO1 := Lib.hid hR1
  have HO2 := Lib.hid hR2
  have HLN : Hid (opF (Go.PlainAid.bt s (k + 1)) ≠ 0 → k + 1 < s.size) := Lib.hid (fun h => by
    rcases Nat.lt_or_ge (k + 1) s.size with h1 | h1
    · exact h1
    · rw [bt_end s h1] at h; exact absurd rfl h)
  clear hR1 hR2
  obtain ⟨kn, hkn⟩ : ∃ kn, k + 1 = kn := ⟨_, rfl⟩
  have e0 : (k : Int) + 1 = (kn : Int) := by omega
  rw [hkn] at HO1 HO2 HSI HLN
  have hkn2 : kn ≤ s.size := by omega
  have HKN := Lib.hid hkn
  have HZI := Lib.hid (opI_zero (Go.PlainAid.bt s kn))
  have HAI := Lib.hid (opI_all (Go.PlainAid.bt s kn))
  have HHIT := Lib.hid (fun i => opI_hit (c := Go.PlainAid.bt s kn) (i := i))
  have HMIS := Lib.hid (fun i => opI_miss (c := Go.PlainAid.bt s kn) (i := i))
  have HRG := Lib.hid (opF_range (Go.PlainAid.bt s kn))
  have e1 : (Go.PlainAid.bt s k == 116) = false := by simp [hc]
  have e2 : (Go.PlainAid.bt s k == 102) = false := by simp [hc]
  have e3 : (Go.PlainAid.bt s k == 118) = false := by simp [hc]
  have e4 : (Go.PlainAid.bt s k != 40) = false := by simp [hc]
  have g1 : (k : Int) < (s.size : Int) := by omega
  have g2 : ¬ (s.size : Int) ≤ (k : Int) := by omega
  clear he IH hc hkn
  go_enter Try.func17, Try.ntmps17
  go_upto_region 14 with (fail)
  try rw [hW0]
  try rw [e0]
  clear e1 e2 e3 e4 g1 g2 e0 hW0
  go_loopw [9, 10] (fun r9 r10 wr => ∃ i : Nat, i ≤ 7 ∧ r10 = .int .i64 (i : Int) ∧ r9 = .int .i64 (opI (Go.PlainAid.bt s kn) i) ∧ Hid (Below W0.heap.size W0 wr)) (fun _ r10 _ => 7 - (intOf r10).toNat)
  case atStart => exact ⟨0, by omega, rfl, by rw [HZI.out], Lib.hid (Below.refl _ _)⟩
  case round =>
    obtain ⟨i, hi, rfl, rfl, HB⟩ := hrel
    have HBD := Lib.hid (fun m => (HB.out.trans (below_drewN (Below.refl _ wr) m |>.mono HB.out.size)))
    by_cases hi7 : i < 7
    · have l1 : (i : Int) < 7 := by omega
      have hii := HSI.out i hi7
      by_cases hl : kn < s.size
      · have gd : decide ((kn : Int) < (s.size : Int)) = true := by simp; omega
        by_cases hx : Go.PlainAid.bt s kn = Go.PlainAid.bt sg i
        · have hd : (Go.PlainAid.bt s kn == Go.PlainAid.bt sg i) = true := by simp [hx]
          have HN := Lib.hid (HHIT.out i (hii.1 hx))
          clear hii hx
          go_upto_region 16 with (go_at_call 32; (refine (HSG.out _).mono ?_); rintro e w' ⟨rfl, rfl⟩)
          go_quiet ((go_at_call 32; exact (HSG.out _).mono fun _ _ h => ⟨h.1, _, h.2⟩))
          go_wp2
          go_roundw
          case rel => exact ⟨i + 1, by omega, by go_num, by rw [HN.out], Lib.hid (HBD.out _)⟩
          case measure => simp [intOf]; omega
        · have hd : (Go.PlainAid.bt s kn == Go.PlainAid.bt sg i) = false := by simp [hx]
          have HN := Lib.hid (HMIS.out i (fun h => hx (hii.2 h)))
          clear hii hx
          go_upto_region 16 with (go_at_call 32; (refine (HSG.out _).mono ?_); rintro e w' ⟨rfl, rfl⟩)
          go_quiet ((go_at_call 32; exact (HSG.out _).mono fun _ _ h => ⟨h.1, _, h.2⟩))
          go_wp2
          go_roundw
          case rel => exact ⟨i + 1, by omega, by go_num, by rw [HN.out], Lib.hid (HBD.out _)⟩
          case measure => simp [intOf]; omega
      · have gd : decide ((kn : Int) < (s.size : Int)) = false := by simp; omega
        have hz := bt_end s (k := kn) (by omega)
        have HN := Lib.hid (HMIS.out i (fun h => by
          have h2 : opF (Go.PlainAid.bt s kn) = 0 := by rw [hz]; rfl
          omega))
        clear hii hz
        go_upto_region 16 with (go_at_call 32; (refine (HSG.out _).mono ?_); rintro e w' ⟨rfl, rfl⟩)
        go_quiet ((go_at_call 32; exact (HSG.out _).mono fun _ _ h => ⟨h.1, _, h.2⟩))
        go_wp2
        go_roundw
        case rel => exact ⟨i + 1, by omega, by go_num, by rw [HN.out], Lib.hid (HBD.out _)⟩
        case measure => simp [intOf]; omega
    · obtain rfl : i = 7 := by omega
      rw [HAI.out]
      clear HHIT HMIS HZI HSI
      generalize opF (Go.PlainAid.bt s kn) = o at *
      by_cases ho : o = 0
      · have HX := Lib.hid (HO1.out ho)
        have eo : (o == 0) = true := by simp [ho]
        have hbx := HE.out.box HB.out
        obtain ⟨z0, ⟨x0, x1, x2, x3, x4⟩, q0, q1, q2, q3, q4⟩ := got_cells hbx
        have HBX := Lib.hid hbx
        clear hbx ho HO1 HO2
        go_wp2_with (go_at_call 32; (refine (HSG.out _).mono ?_); rintro e w' ⟨rfl, rfl⟩)
        refine bodyPost_ret (res_got rfl _ _ w.heap.size _ _ _ _ _ rfl (put5 HBX.out)) rfl ?_
        rw [HX.out]
        exact HE.out.bad HB.out 0 0 none 0 0 kn
      · have HX := Lib.hid (HO2.out ho)
        have hr := HRG.out.resolve_left ho
        have hlt : kn < s.size := HLN.out ho
        have eo : (o == 0) = false := by simp [ho]
        have HO := Lib.hid ho
        clear HO1 HO2 ho HRG
        have HBW := Lib.hid HB.out
        obtain ⟨W1, hW1⟩ : ∃ W, wr = W := ⟨_, rfl⟩
        rw [hW1] at HB HBW HBD ⊢
        clear hW1
        obtain ⟨ka, hka⟩ : ∃ ka, kn + 1 = ka := ⟨_, rfl⟩
        have ea : (kn : Int) + 1 = (ka : Int) := by omega
        rw [hka] at HX
        have hka2 : ka ≤ s.size := by omega
        have hfu : 2 * (s.size - ka) + 1 ≤ f := by have := HKN.out; omega
        clear hka
        go_upto_region 22 with (go_at_call 32; (refine (HSG.out _).mono ?_); rintro e w' ⟨rfl, rfl⟩)
        try rw [ea]
        clear HBD hlt ea
        go_loopw [1, 11] (fun r1 r11 wr => ∃ (kk : Nat) (ts : List Ex) (ff q : Nat) (Av : Option Addr) (cv : Nat), ts.length = q ∧ kk ≤ s.size ∧ ff ≤ n ∧ 2 * (s.size - kk) + 1 ≤ ff ∧ q ≤ kk ∧ r1 = .int .i64 (kk : Int) ∧ r11 = .slice Av q cv ∧ Hid (kidsF s ff o kk ts = R) ∧ Hid (RowE wr W0.heap.size (.slice Av q cv) ts) ∧ Hid (Below W0.heap.size W0 wr)) (fun r1 _ _ => s.size + 1 - (intOf r1).toNat)
        case atStart => exact ⟨ka, [], f, 0, none, 0, rfl, hka2, hfn, hfu, by omega, rfl, rfl, HX, Lib.hid (RowE.nil _ _), HBW⟩
        case round =>
          obtain ⟨kk, ts, ff, q, Av, cv, hq, hkk, hff, hfk, hqk, rfl, rfl, HV, HRW, HBR⟩ := hrel
          have HQ := Lib.hid hq
          clear hq HX HB HBW
          cases ff with
          | zero => omega
          | succ ff =>
          have hV := HV.out
          rw [kidsF] at hV
          clear HV
          by_cases h32 : Go.PlainAid.bt s kk = 32
          · rw [if_pos h32] at hV
            have hlt := at_lt h32 (by omega)
            have e32 : (Go.PlainAid.bt s kk == 32) = true := by simp [h32]
            have g1 : (kk : Int) < (s.size : Int) := by omega
            have hin := (xr_in s ff).1 (kk + 1) hlt
            have HC := Lib.hid (HI.out ff (kk + 1) wr (by omega) hlt (by omega))
            rw [show ((kk + 1 : Nat) : Int) = (kk : Int) + 1 by omega] at HC
            obtain ⟨X, hX⟩ : ∃ X, exprF s ff (kk + 1) = X := ⟨_, rfl⟩
            rw [hX] at hV hin HC
            clear hX h32
            cases X with
            | bad b =>
              have HX := Lib.hid hV.symm
              clear hV hin
              go_upto_region 24 with (go_at_call 17; (refine HC.out.mono ?_); rintro e w2 ⟨o2, v2, A2, m2, c2, rfl, hb2⟩; have HF2 := Lib.hid (HBR.out.trans (hb2.mono HBR.out.size)); clear hb2)
              obtain ⟨W3, hW3⟩ : ∃ W, w2.alloc (.cells #[.int .i64 o2, .int .i64 v2, .slice A2 m2 c2, .int .i64 (b : Int), .bool false] 47) = W := ⟨_, rfl⟩
              have HF3 : Hid (Below W0.heap.size W0 W3) := Lib.hid (by rw [← hW3]; exact al' HF2.out _)
              have hbx := HE.out.box HF3.out
              have hby : Blk W3 w2.heap.size 47 #[.int .i64 o2, .int .i64 v2, .slice A2 m2 c2, .int .i64 (b : Int), .bool false] := by rw [← hW3]; exact Blk.new _ _ _
              obtain ⟨z0, ⟨x0, x1, x2, x3, x4⟩, q0, q1, q2, q3, q4⟩ := got_cells hbx
              obtain ⟨z5, ⟨y0, y1, y2, y3, y4⟩, _⟩ := got_cells hby
              have HBX := Lib.hid hbx
              try rw [hW3]
              clear hW3 hbx hby
              go_wp2_with fail
              refine bodyPost_ret (res_got rfl _ _ w.heap.size _ _ _ _ _ rfl (put5 HBX.out)) rfl ?_
              rw [HX.out]
              exact HE.out.bad HF3.out o2 v2 A2 m2 c2 b
            | ok t b =>
              have hb1 : kk + 1 < b := hin.1
              have hb3 : b ≤ s.size := hin.2.1
              have HX := Lib.hid hV
              clear hV hin
              have HPU : Hid (∀ w2 W3 A c, Below wr.heap.size wr w2 → RepS (fun x => wr.heap.size ≤ x ∧ x < w2.heap.size) w2 A t → w2.alloc (.cells #[.int .i64 t.op, .int .i64 t.vr, .slice A t.ks.length c, .int .i64 (b : Int), .bool true] 47) = W3 →
                  RowE W3 W0.heap.size (.slice Av q cv) ts ∧ RepS (fun x => (W0.heap.size ≤ x ∧ x < W3.heap.size) ∧ (Value.slice Av q cv).ownBlock ≠ some x) W3 A t ∧ W0.heap.size ≤ W3.heap.size ∧ Below W0.heap.size W0 W3 ∧ (Value.slice Av q cv).ownBlock ≠ some w2.heap.size) := Lib.hid (fun w2 W3 A c h2 hT e3 => by
                have h3 : Below w2.heap.size w2 W3 := by rw [← e3]; exact balw _ _
                have h4 := bt h2 h3
                have hs0 := HBR.out.size
                have hs2 := h2.size
                have hs3 := h3.size
                refine ⟨HRW.out.kept (fun x _ hx => h4.block x hx) h4.size, (hT.kept (fun x hx => h3.block x hx.2)).mono (fun x hx => ⟨⟨by omega, by omega⟩, fun e => ?_⟩), by omega, HBR.out.trans (h4.mono hs0), fun e => ?_⟩
                · have := HRW.out.own_lt e
                  omega
                · have := HRW.out.own_lt e
                  omega)
              go_upto_region 24 with (go_at_call 17; (refine HC.out.mono ?_); rintro e w2 ⟨A, c, rfl, hb2, hT⟩; have HPB := Lib.hid hb2; have HT := Lib.hid hT; clear hb2 hT)
              obtain ⟨W3, hW3⟩ : ∃ W, w2.alloc (.cells #[.int .i64 t.op, .int .i64 t.vr, .slice A t.ks.length c, .int .i64 (b : Int), .bool true] 47) = W := ⟨_, rfl⟩
              obtain ⟨hr3, ht3, hk3, hf3, ho3⟩ := HPU.out w2 W3 A c HPB.out HT.out hW3
              have HR3 := Lib.hid hr3
              have HT3 := Lib.hid ht3
              have HF3 := Lib.hid hf3
              have HK3 := Lib.hid hk3
              have hby : Blk W3 w2.heap.size 47 #[.int .i64 t.op, .int .i64 t.vr, .slice A t.ks.length c, .int .i64 (b : Int), .bool true] := by rw [← hW3]; exact Blk.new _ _ _
              have HO3 := Lib.hid ho3
              obtain ⟨z5, ⟨y0, y1, y2, y3, y4⟩, _⟩ := got_cells hby
              have HBY := Lib.hid hby
              try rw [hW3]
              clear hW3 hr3 ht3 hk3 hf3 ho3 hby HPU HPB HT
              go_upto_region 27 with (at_builtin; refine wpList_app_e rfl (.tmp 128) (.tmp 131) rfl W3 W0.heap.size q (.slice Av q cv) ts HQ.out rfl HR3.out t A c rfl HT3.out HK3.out (by omega) ?_; intro A8 c8 w8 hr8 hb8 hk8)
              have HB8 := Lib.hid (HF3.out.trans hb8)
              have HR8 := Lib.hid hr8
              have hby8 : w8.cell? ⟨w2.heap.size, 3, none⟩ = some (.int .i64 (b : Int)) := Blk.cell (cs := #[.int .i64 t.op, .int .i64 t.vr, .slice A t.ks.length c, .int .i64 (b : Int), .bool true]) (show Blk w8 _ 47 _ from (hk8 _ HBY.out.lt HO3.out).trans HBY.out) 3
              clear hb8 hr8 hk8
              go_wp2
              go_roundw
              case rel => exact ⟨b, ts ++ [t], ff, q + 1, A8, c8, by rw [List.length_append, HQ.out]; rfl, hb3, by omega, by omega, by omega, rfl, rfl, HX, HR8, HB8⟩
              case measure => simp [intOf]; omega
          · rw [if_neg h32] at hV
            have e32 : (Go.PlainAid.bt s kk == 32) = false := by simp [h32]
            have hbx := HE.out.box HBR.out
            obtain ⟨z0, ⟨x0, x1, x2, x3, x4⟩, q0, q1, q2, q3, q4⟩ := got_cells hbx
            have HBX := Lib.hid hbx
            have HSW := HE.out.sz
            have HSZ := Lib.hid HSW
            clear hbx HSW
            by_cases h41 : Go.PlainAid.bt s kk = 41
            · rw [if_pos h41] at hV
              have hlt := at_lt h41 (by omega)
              have e41 : (Go.PlainAid.bt s kk != 41) = false := by simp [h41]
              have g1 : (kk : Int) < (s.size : Int) := by omega
              have g2 : ¬ (s.size : Int) ≤ (kk : Int) := by omega
              have HX := Lib.hid hV.symm
              clear hV h41 h32
              go_wp2
              refine bodyPost_ret (res_got rfl _ _ w.heap.size _ _ _ _ _ rfl (put5 HBX.out)) rfl ?_
              rw [HX.out]
              refine ⟨Av, cv, ?_, below5 (HE.out.bw.trans (HBR.out.mono (by have := HSZ.out; omega))) (Nat.le_refl _) _ _ _ _ _, ?_⟩
              · show Ending.returned (.agg #[.int .i64 o, .int .i64 0, .slice Av q cv, .int .i64 ((kk : Int) + 1), .bool true]) = .returned (.agg #[.int .i64 o, .int .i64 0, .slice Av ts.length cv, .int .i64 ((kk + 1 : Nat) : Int), .bool true])
                rw [HQ.out, show ((kk + 1 : Nat) : Int) = (kk : Int) + 1 by omega]
              · have hT := HRW.out.tree o (A := Av) (c := cv) (by rw [HQ.out])
                refine (hT.kept (fun x hx => ?_)).mono (fun x hx => ⟨by have := HSZ.out; omega, by simpa using hx.2⟩)
                have hxx : ¬ w.heap.size = x := by have := hx.1; have := HSZ.out; omega
                simp only [World.setCell, Array.getElem?_modify, hxx, if_false]
            · rw [if_neg h41] at hV
              have HX := Lib.hid hV.symm
              have e41 : (Go.PlainAid.bt s kk != 41) = true := by simp [h41]
              clear hV h41 h32
              by_cases hl : kk < s.size
              · have g1 : (kk : Int) < (s.size : Int) := by omega
                have g2 : ¬ (s.size : Int) ≤ (kk : Int) := by omega
                go_wp2
                refine bodyPost_ret (res_got rfl _ _ w.heap.size _ _ _ _ _ rfl (put5 HBX.out)) rfl ?_
                rw [HX.out]
                exact HE.out.bad HBR.out 0 0 none 0 0 kk
              · have g1 : ¬ (kk : Int) < (s.size : Int) := by omega
                have g2 : (s.size : Int) ≤ (kk : Int) := by omega
                clear e32 e41
                go_wp2
                refine bodyPost_ret (res_got rfl _ _ w.heap.size _ _ _ _ _ rfl (put5 HBX.out)) rfl ?_
                rw [HX.out]
                exact HE.out.bad HBR.out 0 0 none 0 0 kk
/-- The specification's expr reads what exprF says. -/
theorem r_expr (s : ByteArray) (hs : s.size ≤ 65536) : ∀ n f k w, f ≤ n → k ≤ s.size → 2 * (s.size - k) + 2 ≤ f → Calls Try.prog 17 #[.string s, .int .i64 (k : Int)] w (GX w (exprF s f k))
  | 0, _, _, _, h, _, _ => by omega
  | n + 1, 0, k, w, _, _, _ => by omega
  | n + 1, f + 1, k, w, hf, hk, hfu => by
    rw [exprF]
    by_cases h1 : Go.PlainAid.bt s k = 116
    · rw [if_pos h1]; exact r_true s k w (at_lt h1 (by omega)) hs h1
    · rw [if_neg h1]
      by_cases h2 : Go.PlainAid.bt s k = 102
      · rw [if_pos h2]; exact r_false s k w (at_lt h2 (by omega)) hs h2
      · rw [if_neg h2]
        by_cases h3 : Go.PlainAid.bt s k = 118
        · rw [if_pos h3]; exact r_var s k w (at_lt h3 (by omega)) hs h3
        · rw [if_neg h3]
          by_cases h4 : Go.PlainAid.bt s k = 40
          · rw [if_pos h4]
            refine r_paren s hs n (r_expr s hs n) k w (at_lt h4 (by omega)) f (by omega) (by omega) h4 _ (fun h => ?_) (fun h => ?_)
            · unfold operR; rw [if_pos h]
            · unfold operR; rw [if_neg h]
          · rw [if_neg h4]; exact r_none s k w hk hs h1 h2 h3 h4
end Go.Proofs.Ytipapemcedkinaa
