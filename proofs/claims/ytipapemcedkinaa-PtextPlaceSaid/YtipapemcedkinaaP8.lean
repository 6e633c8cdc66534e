/- The parser of layer 7 (ptext): expr with parentheses, walked. -/
import Derived.Test.YtipapemcedkinaaP7
namespace Go.Proofs.Ytipapemcedkinaa
open Go.RowKit Go.PlainAid

set_option maxRecDepth 100000 in
set_option maxHeartbeats 8000000 in
theorem p_paren (s : ByteArray) (hs : s.size ≤ 65536) (n : Nat)
    (IH : ∀ pb f k w, f ≤ n → Ps pb s k w → k ≤ s.size → 2 * (s.size - k) + 2 ≤ f → Calls Try.prog 15 #[.pointer (some ⟨pb, 0, none⟩)] w (XP pb s w (exprF s f k)))
    (pb k : Nat) (w : World) (h : Ps pb s k w) (hk : k ≤ s.size) (f : Nat) (hfn : f ≤ n) (hf : 2 * (s.size - k) + 1 ≤ f) (hc : Go.PlainAid.bt s k = 40) :
    Calls Try.prog 15 #[.pointer (some ⟨pb, 0, none⟩)] w (XP pb s w (match operR s (k + 1) with | .bad a => .bad a | .ok o a => kidsF s f o a [])) := by
  have hl := at_lt hc (by omega)
  have he := Ent.mk' h
  have HE := Lib.hid he
  have HPK := Lib.hid (p_peek pb s k _ he.ps hk hs)
  rw [hc] at HPK
  have HND := Lib.hid (fun n => need_is open_ints' (by simp) (by simp) (he.ps.drewN n) hk hs)
  have hw : wordL s [40] k = (k + 1, true) := by rw [wordL, if_pos hc]; rfl
  rw [hw] at HND
  have HOP := Lib.hid (fun w2 (h2 : Ps pb s (k + 1) w2) => p_oper pb s (k + 1) w2 h2 hl hs)
  have HIN := operR_in (k := k + 1) hl
  have HFD := Lib.hid (fun n => Frm.drewN (Frm.refl (At pb) (w.alloc (.cells #[.int .i64 0, .int .i64 0, .slice none 0 0] 25))) n)
  have HI := Lib.hid IH
  generalize operR s (k + 1) = R at *
  clear he h hc hw IH
  cases R with
  | bad a =>
    go_enter Try.func15, Try.ntmps15
    go_wp2_with (first
      | (go_at_call 26; (refine (HOP.out _ HP2.out).mono ?_); rintro e w3 ⟨rfl, hf3⟩)
      | (go_at_call 24; (refine (HND.out _).mono ?_); rintro e w2 ⟨hf, he, _⟩; obtain ⟨rfl, hp⟩ := he rfl; have HF2 := Lib.hid ((HFD.out _).trans hf); have HP2 := Lib.hid hp; clear hf he hp)
      | (go_at_call 23; (refine HPK.out.mono ?_); rintro e w1 ⟨rfl, m, rfl⟩))
    exact ⟨rfl, rfl, HE.out.fr.trans (HF2.out.trans hf3)⟩
  | ok o a0 =>
    show Calls Try.prog 15 #[.pointer (some ⟨pb, 0, none⟩)] w (XP pb s w (kidsF s f o a0 []))
    obtain ⟨R, hR⟩ : ∃ R, kidsF s f o a0 [] = R := ⟨_, rfl⟩
    rw [hR]
    have HR := Lib.hid hR
    have ha0 : a0 ≤ s.size := HIN.2
    have ha1 : k + 1 < a0 := HIN.1
    clear hR HIN
    go_enter Try.func15, Try.ntmps15
    go_upto_region 13 with (first
      | (go_at_call 26; (refine (HOP.out _ HP2.out).mono ?_); rintro e w3 ⟨rfl, hf3, hp3⟩; have HF3 := Lib.hid (HE.out.fr.trans (HF2.out.trans hf3)); have HFE := Lib.hid (HF2.out.trans hf3); have HP3 := Lib.hid hp3; clear hf3 hp3)
      | (go_at_call 24; (refine (HND.out _).mono ?_); rintro e w2 ⟨hf, he, _⟩; obtain ⟨rfl, hp⟩ := he rfl; have HF2 := Lib.hid ((HFD.out _).trans hf); have HP2 := Lib.hid hp; clear hf he hp)
      | (go_at_call 23; (refine HPK.out.mono ?_); rintro e w1 ⟨rfl, m, rfl⟩))
    obtain ⟨W0, hW0⟩ : ∃ W, w3.alloc (.cells #[.int .i64 o, .int .i64 0, .slice none 0 0] 25) = W := ⟨_, rfl⟩
    have hz0 : W0.heap.size = w3.heap.size + 1 := by rw [← hW0]; simp
    have HLS : Hid (LS pb s w3.heap.size o W0 a0 [] W0) := Lib.hid (by
      have hp := HP3.out.lt
      have hb : Below w3.heap.size w3 W0 := by rw [← hW0]; exact balw _ _
      exact ⟨Frm.refl _ _, by omega, by omega, by omega, Blk.below HP3.out hb hp, .slice none 0 0, by rw [← hW0]; exact Blk.new _ _ _, RowE.nil _ _⟩)
    have HF0 : Hid (Frm (At pb) w W0) := Lib.hid (by rw [← hW0]; exact HF3.out.alloc _)
    have HBX : Hid (Blk W0 w.heap.size 25 #[.int .i64 0, .int .i64 0, .slice none 0 0] ∧ w.heap.size < w3.heap.size) := Lib.hid (by
      have hb := HE.out.box HFE.out
      exact ⟨by rw [← hW0]; exact hb.alloc _, hb.lt⟩)
    rw [hW0]
    obtain ⟨G, hG⟩ : ∃ G, w3.heap.size = G := ⟨_, rfl⟩
    rw [hG] at HLS HBX hz0 ⊢
    clear hW0 hG HF3 HFE HP3 HFD HPK HND HOP
    go_loopg [] (s.size + 1) (fun g wr => ∃ (kk : Nat) (ts : List Ex) (ff : Nat), s.size - kk < g ∧ kk ≤ s.size ∧ ff ≤ n ∧ 2 * (s.size - kk) + 1 ≤ ff ∧ ts.length ≤ kk ∧ Hid (kidsF s ff o kk ts = R) ∧ Hid (LS pb s G o W0 kk ts wr))
    case atStart => exact ⟨a0, [], f, by omega, ha0, hfn, by omega, by simp, HR, HLS⟩
    case round =>
      obtain ⟨kk, ts, ff, hg, hkk, hff, hfu, htl, HV, HL⟩ := hrel
      clear HR HLS
      cases gk with
      | zero => omega
      | succ gk =>
      cases ff with
      | zero => omega
      | succ ff =>
      have HPK := Lib.hid (p_peek pb s kk wr HL.out.ps hkk hs)
      have hV := HV.out
      rw [kidsF] at hV
      clear HV
      by_cases h32 : Go.PlainAid.bt s kk = 32
      · rw [if_pos h32] at hV
        rw [h32] at HPK
        have hlt := at_lt h32 (by omega)
        have hin := (xr_in s ff).1 (kk + 1) hlt
        have HCX := Lib.hid (fun w2 h2 => HI.out pb ff (kk + 1) w2 (by omega) h2 hlt (by omega))
        obtain ⟨X, hX⟩ : ∃ X, exprF s ff (kk + 1) = X := ⟨_, rfl⟩
        rw [hX] at hV hin HCX
        have c1 : ∀ m, (wr.drewN m).cell? ⟨pb, 1, none⟩ = some (.int .i64 (kk : Int)) := fun m => (HL.out.ps.drewN m).cell 1
        have f1 : ∀ m, (wr.drewN m).frozen? ⟨pb, 1, none⟩ = false := fun m => (HL.out.ps.drewN m).frozen 1
        have HU : Hid (∀ m, LS pb s G o W0 (kk + 1) ts ((wr.drewN m).setCell ⟨pb, 1, none⟩ (.int .i64 ((kk : Int) + 1)))) := Lib.hid (fun m => by
          have h := Ps.drew_put HL.out.ps m (kk + 1)
          rw [show ((kk + 1 : Nat) : Int) = (kk : Int) + 1 by omega] at h
          exact HL.out.turn ((frm_drew (S := At pb) m).set (g := pb) rfl _ _) h)
        clear hX h32
        go_upto_region 15 with (go_at_call 23; (refine HPK.out.mono ?_); rintro e w1 ⟨rfl, m, rfl⟩; have c2 := c1 m; have f2 := f1 m; clear c1 f1)
        have HL2 := Lib.hid (HU.out m)
        clear HU c2 f2 HPK HL
        generalize (wr.drewN m).setCell ⟨pb, 1, none⟩ (.int .i64 ((kk : Int) + 1)) = w2 at *
        have HC := Lib.hid (HCX.out w2.drew (HL2.out.ps.drewN 1))
        clear HCX
        obtain ⟨v, hb6, ka, kc, hown, hkds⟩ := HL2.out.row
        obtain ⟨Av, cv, rfl⟩ := owns_slice hown
        obtain ⟨q, hq⟩ : ∃ q, ts.length = q := ⟨_, rfl⟩
        have HQ := Lib.hid hq
        rw [hq] at hb6 hown htl
        have HB6 := Lib.hid hb6
        have y0 : w2.cell? ⟨G, 2, none⟩ = some (.slice Av q cv) := hb6.cell 2
        have hne : G ≠ pb := HL2.out.ne
        have HNE := Lib.hid hne
        have HD1 : Hid (Frm (At pb) w2 w2.drew) := Lib.hid (frm_drew 1)
        cases X with
        | bad b =>
          clear hown hkds hb6 hq hne
          have HX : Hid (R = .bad b) := Lib.hid hV.symm
          clear hV hin
          have HFW : Hid (∀ w1, Frm (At pb) w2.drew w1 → Frm (At pb) w w1) := Lib.hid (fun w1 h => (frm_out HF0.out HL2.out.fr (Nat.le_of_lt HBX.out.2)).trans (HD1.out.trans h))
          have HXE : Hid (∀ w1, Frm (At pb) w2.drew w1 → XP pb s w R (faultAt b) w1) := Lib.hid (fun w1 h => by rw [HX.out]; exact ⟨rfl, HFW.out _ h⟩)
          go_region_law (go_simp; go_at_call 15; (with_reducible refine HC.out.mono ?_); rintro e w1 ⟨rfl, hf1⟩; refine shut_arm (And.intro rfl (HXE.out _ hf1)) ?_)
          all_goals trivial
        | ok t b =>
          have hb1 : kk + 1 < b := hin.1
          have hb2 : b ≤ s.size := hin.2.1
          have HX : Hid (kidsF s ff o b (ts ++ [t]) = R) := Lib.hid hV
          obtain ⟨cs, hcs⟩ : ∃ cs, csOf ts ka kc = cs := ⟨_, rfl⟩
          have HST : Hid (∀ w1 w8 A c A8 c8, Frm (At pb) w2.drew w1 → Ps pb s b w1 → RepS (fun x => w2.drew.heap.size ≤ x ∧ x < w1.heap.size) w1 A t → (w1.alloc (.cells (exC t A c) 25)).grownBy w8 (Value.slice Av q cv).ownBlock → w8.ownsRow W0.heap.size 25 3 (.slice A8 (q + 1) c8) (q + 1) (cs ++ (exC t A c).toList) → (∀ y, (Value.slice A8 (q + 1) c8).ownBlock = some y → (Value.slice Av q cv).ownBlock = some y ∨ y = (w1.alloc (.cells (exC t A c) 25)).heap.size) →
              Blk w8 G 25 #[.int .i64 o, .int .i64 0, .slice Av q cv] ∧ LS pb s G o W0 b (ts ++ [t]) (w8.setCell ⟨G, 2, none⟩ (.slice A8 (q + 1) c8))) := Lib.hid (fun w1 w8 A c A8 c8 h1 hp hT hg h8 hat => by
            rw [← hcs] at h8
            have hq2 := HQ.out
            subst hq2
            exact ls_step HL2.out hb6 hown hkds HD1.out h1 hp hT hg h8 hat)
          have HOW : Hid (∀ wx : World, (∀ x, W0.heap.size ≤ x → x < w2.heap.size → wx.heap[x]? = w2.heap[x]?) → wx.ownsRow W0.heap.size 25 3 (.slice Av q cv) q cs) := Lib.hid (fun wx hx => by
            rw [← hcs]
            have hl := fun y hy => hown.lt (k := y) hy
            exact own_eqb hown (fun y hy => hx y (hl y hy).1 (hl y hy).2))
          have HSZ := Lib.hid HL2.out.fr.size
          have HLP := Lib.hid HL2.out.lp
          clear hcs hown hkds hb6 hq hne hV hin
          go_region_law (first
            | (refine step_app_row Try.underlying23 info25 rfl (by decide) (by decide) (by rfl) (.tmp 39) (.tmp 42) (by rfl) W0.heap.size q (.slice Av q cv) cs (by rfl) HOX.out ⟨w1.heap.size, 0, none⟩ 1 1 (exC t A1 k1).toList (by rfl) (by rfl) HC5.out (by simp [Value.oneCell']) HLE.out (by omega) ?_; intro A8 c8 w8 hO8 hg8 ha8; obtain ⟨k8, i8⟩ := HST.out _ _ _ _ _ _ HF1.out HP1.out HT1.out hg8 hO8 ha8; have q0 : w8.cell? ⟨G, 2, none⟩ = some (.slice Av q cv) := k8.cell 2; have q1 := k8.lt; have q2 := k8.frozen 2; have I8 := Lib.hid i8; clear hO8 hg8 ha8 k8 i8)
            | (go_simp; go_at_call 15; (with_reducible refine HC.out.mono ?_); rintro e w1 ⟨A1, k1, rfl, hf1, hp1, hT1⟩; have kB := HB6.out.frm (HD1.out.trans hf1) HNE.out; have e0 : w1.cell? ⟨G, 2, none⟩ = some (.slice Av q cv) := kB.cell 2; have e1 : (w1.alloc (.cells (exC t A1 k1) 25)).cell? ⟨G, 2, none⟩ = some (.slice Av q cv) := (kB.alloc _).cell 2; have HC5 : Hid (∀ j z, (exC t A1 k1).toList[j]? = some z → (w1.alloc (.cells (exC t A1 k1) 25)).cell? ((⟨w1.heap.size, 0, none⟩ : Addr).add j) = some z) := Lib.hid (fun j z hj => by rw [adr_add, Nat.zero_add, (Blk.new w1 25 (exC t A1 k1)).cell j]; simpa using hj); have HF1 := Lib.hid hf1; have HP1 := Lib.hid hp1; have HT1 := Lib.hid hT1; have HLE : Hid (W0.heap.size ≤ (w1.alloc (.cells (exC t A1 k1) 25)).heap.size) := Lib.hid (by have := HSZ.out; have := (HD1.out.trans hf1).size; simp; omega); have HOX : Hid ((w1.alloc (.cells (exC t A1 k1) 25)).ownsRow W0.heap.size 25 3 (.slice Av q cv) q cs) := Lib.hid (HOW.out _ (fun x h0 h2 => ((balw w1 (.cells (exC t A1 k1) 25)).block x (by have := (HD1.out.trans hf1).size; omega)).trans ((HD1.out.trans hf1).block x h2 (by have := HLP.out; show ¬ x = pb; omega)))); clear hf1 hp1 hT1 kB))
          · go_wp2
            go_roundg gk
            case rel => exact ⟨b, ts ++ [t], ff, by omega, hb2, by omega, by omega, by rw [List.length_append, HQ.out]; simp; omega, HX, I8⟩
            case measure => omega
          · go_wp2
            go_roundg gk
            case rel => exact ⟨b, ts ++ [t], ff, by omega, hb2, by omega, by omega, by rw [List.length_append, HQ.out]; simp; omega, HX, I8⟩
            case measure => omega
          · go_wp2
            go_roundg gk
            case rel => exact ⟨b, ts ++ [t], ff, by omega, hb2, by omega, by omega, by rw [List.length_append, HQ.out]; simp; omega, HX, I8⟩
            case measure => omega
      · rw [if_neg h32] at hV
        have e32 : (Go.PlainAid.bt s kk == 32) = false := by simp [h32]
        have HND := Lib.hid (fun n => need_is close_ints (by simp) (by simp) (HL.out.ps.drewN n) hkk hs)
        have hw : wordL s [41] kk = if Go.PlainAid.bt s kk = 41 then (kk + 1, true) else (kk, false) := by rw [wordL]; split <;> rfl
        have HFD : Hid (∀ m w2, Frm (At pb) (wr.drewN m) w2 → Frm (At pb) wr w2) := Lib.hid (fun m w2 h => (frm_drew m).trans h)
        have HFO : Hid (∀ w2, Frm (At pb) wr w2 → Frm (At pb) w w2) := Lib.hid (fun w2 h => (frm_out HF0.out HL.out.fr (Nat.le_of_lt HBX.out.2)).trans h)
        by_cases h41 : Go.PlainAid.bt s kk = 41
        · rw [if_pos h41] at hV hw
          rw [hw] at HND
          have HX := Lib.hid hV.symm
          have HLT : Hid (∀ w2, Frm (At pb) wr w2 → Ps pb s (kk + 1) w2 → (∃ A c, Blk w2 G 25 #[.int .i64 o, .int .i64 0, .slice A ts.length c] ∧ RepS (fun x => W0.heap.size ≤ x ∧ x < w2.heap.size) w2 A (.mk o 0 ts)) ∧ Blk w2 w.heap.size 25 #[.int .i64 0, .int .i64 0, .slice none 0 0] ∧ pb < w.heap.size ∧ w.heap.size < W0.heap.size) := Lib.hid (fun w2 h hp => by
            have hL2 := HL.out.turn h hp
            have hl := HL.out.lp
            have h2 := hL2.fr
            have hpb := HE.out.lt
            have hgw := HBX.out.2
            exact ⟨ls_done hL2, HBX.out.1.frm h2 (by show ¬ (_ = _ ∨ _ = _); omega), hpb, by omega⟩)
          clear hV hw h41 h32 HL
          go_wp2_with (first
            | (go_at_call 24; (refine (HND.out _).mono ?_); rintro e w2 ⟨hf, he, _⟩; obtain ⟨rfl, hp⟩ := he rfl; have hf2 := HFD.out _ _ hf; obtain ⟨⟨A, c, hbG, hT⟩, hbx, hpb, hW⟩ := HLT.out _ hf2 hp; obtain ⟨y0, y1, y2, y3, _, _, _⟩ := box_cells hbG; obtain ⟨z0, x0, x1, x2, q0, q1, q2⟩ := box_cells hbx; have HBX2 := Lib.hid hbx; have HF := Lib.hid (HFO.out _ hf2); have HPS := Lib.hid hp; have HT := Lib.hid hT; clear hf hf2 he hp hbx hbG hT)
            | (go_at_call 23; (refine HPK.out.mono ?_); rintro e w1 ⟨rfl, m, rfl⟩))
          refine bodyPost_ret (res_ex rfl _ _ w.heap.size _ _ _ rfl (put3 HBX2.out)) rfl ?_
          rw [HX.out]
          refine ⟨A, c, rfl, frm3 HF.out (Nat.le_refl _) _ _ _, ps3 HPS.out (by omega) _ _ _, ?_⟩
          refine (HT.out.kept (fun x hx => ?_)).mono (fun x hx => ⟨by omega, by simpa using hx.2⟩)
          have hxx : ¬ w.heap.size = x := by have := hx.1; omega
          simp only [World.setCell, Array.getElem?_modify, hxx, if_false]
        · rw [if_neg h41] at hV hw
          rw [hw] at HND
          have HX := Lib.hid hV.symm
          clear hV hw h41 h32 HL
          go_wp2_with (first
            | (go_at_call 24; (refine (HND.out _).mono ?_); rintro e w2 ⟨hf, _, he⟩; obtain rfl := he rfl)
            | (go_at_call 23; (refine HPK.out.mono ?_); rintro e w1 ⟨rfl, m, rfl⟩))
          refine ⟨rfl, ?_⟩
          rw [HX.out]
          exact ⟨rfl, HFO.out _ (HFD.out _ _ hf)⟩
/-- expr reads what exprF says. -/
theorem p_expr (s : ByteArray) (hs : s.size ≤ 65536) : ∀ n pb f k w, f ≤ n → Ps pb s k w → k ≤ s.size → 2 * (s.size - k) + 2 ≤ f → Calls Try.prog 15 #[.pointer (some ⟨pb, 0, none⟩)] w (XP pb s w (exprF s f k))
  | 0, _, _, _, _, h, _, _, _ => by omega
  | n + 1, pb, 0, k, w, _, _, _, _ => by omega
  | n + 1, pb, f + 1, k, w, hf, hp, hk, hfu => by
    rw [exprF]
    by_cases h1 : Go.PlainAid.bt s k = 116
    · rw [if_pos h1]; exact p_true pb s k w hp hk hs h1
    · rw [if_neg h1]
      by_cases h2 : Go.PlainAid.bt s k = 102
      · rw [if_pos h2]; exact p_false pb s k w hp hk hs h2
      · rw [if_neg h2]
        by_cases h3 : Go.PlainAid.bt s k = 118
        · rw [if_pos h3]; exact p_var pb s k w hp hk hs h3
        · rw [if_neg h3]
          by_cases h4 : Go.PlainAid.bt s k = 40
          · rw [if_pos h4]
            exact p_paren s hs n (p_expr s hs n) pb k w hp hk f (by omega) (by omega) h4
          · rw [if_neg h4]; exact p_none pb s k w hp hk hs h1 h2 h3 h4
end Go.Proofs.Ytipapemcedkinaa
