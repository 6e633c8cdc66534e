/- The contract of the walk of a fold over values, of layer 30 (terms). -/
import Derived.Test.YtcdpjodnbegepaaFnP
namespace Go.Proofs.Ytcdpjodnbegepaa
open Go.RowKit

def FixV (bw bd bo br be : Nat) (p1 p2 p3 p4 : Value) (w : World) : Prop := Blk w bw 25 #[.func (.func 69) #[] (fC bw bd bo br be)] ∧ Blk w bo 77 #[.func (.func 49) #[] #[p1, p2, p3, p4]]
set_option maxRecDepth 100000 in
set_option maxHeartbeats 8000000 in
theorem pr_foldV (w0 : World) (nd : Ex → List Int → Int × Int) (p1 p2 p3 p4 : Value) (ok : Ex → Prop) (pk : Int → Prop) (bw bd bo br be B0 : Nat)
    (hok : ∀ t, ok t → ∀ k, k ∈ t.ks → ok k) (hpk : ∀ t l, ok t → (∀ y, y ∈ l → pk y) → l.length = t.ks.length → (nd t l).2 = 0 → pk (nd t l).1)
    (hdo : ∀ w, Below w0.heap.size w0 w → ∀ t A c l K ck, ok t → Rep w0.heap.size w0 A t → RI w w.heap.size K l → l.length = t.ks.length → (∀ y, y ∈ l → pk y) → fdL (0 : Int) nd t.ks = ((l, (0 : Int)), 0) → Calls Try.prog 49 #[exV t A c, .slice K l.length ck, p1, p2, p3, p4] w (Two (nd t l) w)) :
    ∀ (n : Nat) t, t.sz ≤ n → n ≤ 100000000 → ok t → ∀ A c S D y er w, Rep w0.heap.size w0 A t → Below w0.heap.size w0 w → (∀ b, S b → w0.heap.size ≤ b) → (∀ b, w.heap.size ≤ b → S b) → FixV bw bd bo br be p1 p2 p3 p4 w → ¬ S bw → ¬ S bo → InG bd br be B0 S D y er w → D.length + t.sz ≤ 100000000 →
      Calls Try.prog 69 #[exV t A c, .pointer (some ⟨bw, 0, none⟩), .pointer (some ⟨bd, 0, none⟩), .pointer (some ⟨bo, 0, none⟩), .pointer (some ⟨br, 0, none⟩), .pointer (some ⟨be, 0, none⟩)] w (FoldQ bd br be B0 S D (fd (0 : Int) nd t) w) := by
  intro n
  induction n with
  | zero => intro t h; have := sz_eq t; omega
  | succ n ih =>
    intro t ht hn hokt A c S D y er w hR hB0 hS hF hfix hbw hbo hI hD
    have HIH := Lib.hid ih
    have HI := Lib.hid hI
    have HR := Lib.hid hR
    have HDO := Lib.hid hdo
    have HFP := Lib.hid (fun t h1 h2 => fd_pk (z := (0 : Int)) (nd := nd) hok hpk t h1 h2)
    have HOKT := Lib.hid hokt
    have HOK := Lib.hid (hok t hokt)
    have HS := Lib.hid hS
    have HF := Lib.hid hF
    have HFX := Lib.hid hfix
    have HB0 := Lib.hid hB0
    have HNW := Lib.hid hbw
    have HNO := Lib.hid hbo
    have hlen := szL_len t.ks
    have hszt := sz_eq t
    have hkb : t.ks.length ≤ 100000000 := by omega
    have HAT := Lib.hid (fun k (hk : k < t.ks.length) => (show D.length + k + (kd t.ks k).sz ≤ 100000000 ∧ (kd t.ks k).sz ≤ n by have := szL_at hk; have := kd_sz hk; omega))
    have HDL : Hid (D.length + t.ks.length ≤ 100000000) := Lib.hid (by omega)
    clear hdo ih hR hS hF hI hB0 hfix hbw hbo hok hpk hokt hszt hlen hD ht
    obtain ⟨R, hRR⟩ : ∃ R, fd (0 : Int) nd t = R := ⟨_, rfl⟩
    rw [hRR]
    have HRR := Lib.hid hRR
    clear hRR
    obtain ⟨RL, hRL⟩ : ∃ RL, fdL (0 : Int) nd t.ks = RL := ⟨_, rfl⟩
    have HRL := Lib.hid hRL
    clear hRL
    have HAL : Hid (∀ ob, Below w.heap.size w (w.alloc ob)) := Lib.hid (fun ob => (Below.refl _ _).alloc (Nat.le_refl _) ob)
    obtain ⟨S1, hS1⟩ : ∃ S1, (fun b => S b ∧ b ≠ w.heap.size) = S1 := ⟨_, rfl⟩
    have HS1 : Hid (∀ b, S1 b → S b) := Lib.hid (fun b => by rw [← hS1]; exact fun x => x.1)
    have HSN : Hid (¬ S1 w.heap.size) := Lib.hid (by rw [← hS1]; exact fun x => x.2 rfl)
    have HSF : Hid (∀ b, w.heap.size + 1 ≤ b → S1 b) := Lib.hid (fun b hb => by rw [← hS1]; exact ⟨HF.out b (by omega), by omega⟩)
    have HI1 : Hid (InG bd br be B0 S1 D y er (w.alloc (.cells (exC t A c) 24))) := Lib.hid (by rw [← hS1]; exact (HI.out.narrow (Nat.le_refl _)).below (HAL.out _))
    clear hS1
    -- what holds of every world that the walk reaches behind the box
    have HX : Hid (∀ wr, Frm S1 (w.alloc (.cells (exC t A c) 24)) wr → (wr.cell? ⟨w.heap.size, 0, none⟩ = some (.int .i64 t.op) ∧ wr.cell? ⟨w.heap.size, 1, none⟩ = some (.int .i64 t.vr) ∧ wr.cell? ⟨w.heap.size, 2, none⟩ = some (.string t.nm) ∧ wr.cell? ⟨w.heap.size, 3, none⟩ = some (.slice A t.ks.length c)) ∧ Frm S w wr ∧ FixV bw bd bo br be p1 p2 p3 p4 wr ∧ Below w0.heap.size w0 wr ∧ w.heap.size < wr.heap.size) := Lib.hid (fun wr h => by
      have b1 := (Blk.new w 24 (exC t A c)).frm h HSN.out
      have hf : Frm S w wr := (Frm.of_below (HAL.out _)).trans (h.mono HS1.out)
      exact ⟨⟨b1.cell 0, b1.cell 1, b1.cell 2, b1.cell 3⟩, hf, ⟨HFX.out.1.frm hf HNW.out, HFX.out.2.frm hf HNO.out⟩, HB0.out.trans (hf.below2 (fun k hk hs => by have := HS.out k hs; omega) HB0.out.size), b1.lt⟩)
    go_enter Try.func69, Try.ntmps69
    go_wp2
    go_loopw [7, 14] (fun r7 i wr => ∃ (k : Nat) (L : List Int), k ≤ t.ks.length ∧ r7 = .bool false ∧ i = .int .i64 (k : Int) ∧ Hid (L.length = k ∧ Rest (0 : Int) nd L (t.ks.drop k) RL ∧ (∀ y, y ∈ L → pk y)) ∧ Hid (Frm S1 (w.alloc (.cells (exC t A c) 24)) wr ∧ ∃ y er, InG bd br be B0 S1 (D ++ L) y er wr)) (fun _ i _ => t.ks.length - (intOf i).toNat)
    case atStart => exact ⟨0, [], Nat.zero_le _, rfl, rfl, Lib.hid ⟨rfl, by show RL = _; rw [← HRL.out]; rfl, fun y hy => by cases hy⟩, Lib.hid ⟨Frm.refl _ _, y, er, by rw [List.append_nil]; exact HI1.out⟩⟩
    case round =>
      obtain ⟨k, L, hk, rfl, rfl, HL, HW⟩ := hrel
      obtain ⟨⟨q0, q1, q2, q3⟩, hfw, hfx, hbw0, hszr⟩ := HX.out _ HW.out.1
      have w1 : wr.cell? ⟨bw, 0, none⟩ = some (.func (.func 69) #[] (fC bw bd bo br be)) := hfx.1.cell 0
      have l2 := hfx.1.lt
      by_cases hlt : k < t.ks.length
      · have l1 : (k : Int) < (t.ks.length : Int) := by omega
        obtain ⟨b, f0, rfl, hb, hc⟩ := HR.out.out (by omega)
        obtain ⟨ka, kc, c0, c1, c2, c3, hRk⟩ := hc k hlt
        have d0 := (hbw0.cell (p := ⟨b, f0 + k * 4, none⟩) hb).trans c0
        have d1 := (hbw0.cell (p := ⟨b, f0 + k * 4 + 1, none⟩) hb).trans c1
        have d2 := (hbw0.cell (p := ⟨b, f0 + k * 4 + 2, none⟩) hb).trans c2
        have d3 := (hbw0.cell (p := ⟨b, f0 + k * 4 + 3, none⟩) hb).trans c3
        have HRk := Lib.hid hRk
        have hat := HAT.out k hlt
        have hokk := HOK.out _ (kd_mem hlt)
        obtain ⟨hLk, hrest, hpkL⟩ := HL.out
        obtain ⟨yy, ee, hIk⟩ := HW.out.2
        have hnext := fun h0 => hrest.next (0 : Int) nd hlt h0
        have hstop := fun h0 => hrest.stop (0 : Int) nd hlt h0
        have hpkk := HFP.out _ hokk
        have hA : Below wr.heap.size wr (wr.alloc (.cells (exC (kd t.ks k) ka kc) 24)) := (Below.refl _ _).alloc (Nat.le_refl _) _
        have hszA : (wr.alloc (.cells (exC (kd t.ks k) ka kc) 24)).heap.size = wr.heap.size + 1 := by simp
        have hx2 := HX.out _ (HW.out.1.alloc (.cells (exC (kd t.ks k) ka kc) 24))
        have HC := Lib.hid (HIH.out (kd t.ks k) hat.2 (by omega) hokk ka kc S1 (D ++ L) yy ee (wr.alloc (.cells (exC (kd t.ks k) ka kc) 24)) hRk hx2.2.2.2.1 (fun b h => HS.out b (HS1.out b h)) (fun b hb => HSF.out b (by rw [hszA] at hb; omega)) hx2.2.2.1 (fun h => HNW.out (HS1.out _ h)) (fun h => HNO.out (HS1.out _ h)) (hIk.below hA) (by rw [List.length_append]; omega))
        have HFA : Hid (Frm S1 (w.alloc (.cells (exC t (some ⟨b, f0, none⟩) c) 24)) (wr.alloc (.cells (exC (kd t.ks k) ka kc) 24))) := Lib.hid (HW.out.1.alloc _)
        clear hc c0 c1 c2 c3 hRk hA hszA hx2 hokk hrest hIk hbw0 hfw hfx
        generalize hy : fd (0 : Int) nd (kd t.ks k) = Y at *
        generalize kd t.ks k = u at *
        obtain ⟨y2, e2⟩ := Y
        have HNX := Lib.hid hnext
        have HST := Lib.hid hstop
        have HPK := Lib.hid hpkk
        have HPL := Lib.hid hpkL
        have HLK := Lib.hid hLk
        clear hy hnext hstop hpkk hpkL hLk HL
        by_cases he : e2 = 0
        · subst he
          have X2 : Hid ((L ++ [y2]).length = k + 1 ∧ Rest (0 : Int) nd (L ++ [y2]) (t.ks.drop (k + 1)) RL ∧ (∀ y, y ∈ L ++ [y2] → pk y)) := Lib.hid ⟨by rw [List.length_append, HLK.out]; rfl, HNX.out rfl, fun y hy => by
            rcases List.mem_append.1 hy with h | h
            · exact HPL.out y h
            · rw [List.mem_singleton.1 h]; exact HPK.out rfl⟩
          go_wp2_with (go_at_call 69; (with_reducible refine HC.out.mono ?_); rintro e w3 ⟨h3, hf3, hi3, _⟩; have h4 : e = .returned (.bool true) := h3; subst h4; clear h3; have HF3 := Lib.hid (HFA.out.trans hf3); have HI3 := Lib.hid (hi3 rfl); clear hf3 hi3)
          go_roundw
          case rel => exact ⟨k + 1, L ++ [y2], by omega, rfl, by go_num, X2, Lib.hid ⟨HF3.out, _, _, by rw [← List.append_assoc]; exact HI3.out⟩⟩
          case measure => simp [intOf]; try omega
        · have X2 : Hid (R = (y2, e2)) := Lib.hid (by
            obtain ⟨s1, s2⟩ := HST.out he
            have s1' : RL.1.2 = y2 := s1
            have s2' : RL.2 = e2 := s2
            rw [← HRR.out, fd_eq, HRL.out, s2', if_neg he, s1'])
          have he1 : (e2 == 0) = false := by simp [he]
          go_wp2_with (go_at_call 69; (with_reducible refine HC.out.mono ?_); rintro e w3 ⟨h3, hf3, _, hi3⟩; have h4 : e = .returned (.bool false) := h3.trans (by rw [he1]); subst h4; clear h3; have HF3 := Lib.hid (HFA.out.trans hf3); have HI3 := Lib.hid hi3; clear hf3 hi3)
          go_ret
          rw [X2.out]
          obtain ⟨D', hd⟩ := HI3.out
          exact ⟨by simp [he], (HX.out _ HF3.out).2.1, fun h => absurd h he, D', hd.widen HS1.out⟩
      · have l1 : ¬ (k : Int) < (t.ks.length : Int) := by omega
        obtain rfl : k = t.ks.length := by omega
        obtain ⟨hLk, hrest, hpkL⟩ := HL.out
        have hdone := hrest.done (0 : Int) nd
        have HRN : Hid (R = nd t L) := Lib.hid (by rw [← HRR.out, fd_eq, HRL.out, hdone, if_pos rfl])
        obtain ⟨yy, ee, i1, i2, i3, i4, A2, c2, g5, g6, g7, g8, g9⟩ := HW.out.2
        have HFW := Lib.hid HW.out.1
        obtain ⟨n2, hn2⟩ : ∃ n2, (D ++ L).length = n2 := ⟨_, rfl⟩
        obtain ⟨f, hf⟩ : ∃ f, D.length = f := ⟨_, rfl⟩
        have hnf : n2 = f + t.ks.length := by rw [← hn2, List.length_append, hLk, hf]
        rw [hn2] at g5 g6 g7
        have hdl := HDL.out
        rw [hf] at hdl
        have s1 : (n2 : Int) - (t.ks.length : Int) = (f : Int) := by omega
        have s2 : n2 - f = t.ks.length := by omega
        have s3 : f ≤ n2 := by omega
        have s4 : n2 ≤ 100000000 := by omega
        have HDO2 : Hid (∀ W K ck, Below wr.heap.size wr W → RI W W.heap.size K L → Calls Try.prog 49 #[exV t A c, .slice K t.ks.length ck, p1, p2, p3, p4] W (Two R W)) := Lib.hid (fun W K ck hb hT => by
          rw [HRN.out, ← hLk]
          exact HDO.out W (hbw0.trans (hb.mono hbw0.size)) t A c L K ck HOKT.out HR.out hT hLk hpkL (HRL.out.trans hdone))
        have a1 : wr.cell? ⟨bd, 0, none⟩ = some (.slice A2 n2 c2) := g5.cell 0
        have a0 : wr.cell? ⟨bo, 0, none⟩ = some (.func (.func 49) #[] #[p1, p2, p3, p4]) := hfx.2.cell 0
        have l3 := g5.lt
        have l4 := hfx.2.lt
        have HHF := Lib.hid hf
        have HHN := Lib.hid hn2
        clear hnf hdl hf hn2 hbw0 hdone hrest hpkL
        go_wp2
        have HTY : Hid (∀ W, Below wr.heap.size wr W → RI W W.heap.size (if c2 = f then A2 else Option.map (fun x => x.add f) A2) L) := Lib.hid (fun W hb => (g6.cut HHF.out).step hb)
        obtain ⟨K0, hK0⟩ : ∃ K0, (if c2 = f then A2 else Option.map (fun x => x.add f) A2) = K0 := ⟨_, rfl⟩
        rw [hK0] at HTY
        have HZ : Hid (∀ w2, Below wr.heap.size wr w2 → (w2.cell? ⟨bo, 0, none⟩ = some (.func (.func 49) #[] #[p1, p2, p3, p4]) ∧ w2.cell? ⟨w.heap.size, 0, none⟩ = some (.int .i64 t.op) ∧ w2.cell? ⟨w.heap.size, 1, none⟩ = some (.int .i64 t.vr) ∧ w2.cell? ⟨w.heap.size, 2, none⟩ = some (.string t.nm) ∧ w2.cell? ⟨w.heap.size, 3, none⟩ = some (.slice A t.ks.length c) ∧ w2.cell? ⟨bd, 0, none⟩ = some (.slice A2 n2 c2)) ∧ Blk w2 br 3 #[.int .i64 yy] ∧ Blk w2 be 32 #[.int .i64 ee]) := Lib.hid (fun w2 hb => ⟨⟨(hb.cell (p := ⟨bo, 0, none⟩) l4).trans a0, (hb.cell (p := ⟨w.heap.size, 0, none⟩) hszr).trans q0, (hb.cell (p := ⟨w.heap.size, 1, none⟩) hszr).trans q1, (hb.cell (p := ⟨w.heap.size, 2, none⟩) hszr).trans q2, (hb.cell (p := ⟨w.heap.size, 3, none⟩) hszr).trans q3, (hb.cell (p := ⟨bd, 0, none⟩) l3).trans a1⟩, g8.below hb g8.lt, g9.below hb g9.lt⟩)
        have n1 : ¬ br = be := i2.2.2
        have n2' : ¬ be = br := fun e => n1 e.symm
        have n3 : ¬ bd = br := i2.1
        have n4 : ¬ bd = be := i2.2.1
        have n5 : ¬ bo = br := fun e => HNO.out (by rw [e]; exact HS1.out _ i1.2.1)
        have n6 : ¬ bo = be := fun e => HNO.out (by rw [e]; exact HS1.out _ i1.2.2)
        have n7 : ¬ w.heap.size = br := fun e => HSN.out (by rw [e]; exact i1.2.1)
        have n8 : ¬ w.heap.size = be := fun e => HSN.out (by rw [e]; exact i1.2.2)
        obtain ⟨Rl, Re⟩ := R
        go_region_held3 (fun wx => wx.cell? ⟨bo, 0, none⟩ = some (.func (.func 49) #[] #[p1, p2, p3, p4]) ∧ wx.cell? ⟨w.heap.size, 0, none⟩ = some (.int .i64 t.op) ∧ wx.cell? ⟨w.heap.size, 1, none⟩ = some (.int .i64 t.vr) ∧ wx.cell? ⟨w.heap.size, 2, none⟩ = some (.string t.nm) ∧ wx.cell? ⟨w.heap.size, 3, none⟩ = some (.slice A t.ks.length c) ∧ wx.cell? ⟨bd, 0, none⟩ = some (.slice A2 n2 c2)) (first | with_reducible exact ⟨e0, e1, e2, e3, e4, e5⟩ | with_reducible exact ⟨(cell1 n5 _ _ _).trans e0, (cell1 n7 _ _ _).trans e1, (cell1 n7 _ _ _).trans e2, (cell1 n7 _ _ _).trans e3, (cell1 n7 _ _ _).trans e4, (cell1 n3 _ _ _).trans e5⟩ | with_reducible exact ⟨(cell1 n6 _ _ _).trans ((cell1 n5 _ _ _).trans e0), (cell1 n8 _ _ _).trans ((cell1 n7 _ _ _).trans e1), (cell1 n8 _ _ _).trans ((cell1 n7 _ _ _).trans e2), (cell1 n8 _ _ _).trans ((cell1 n7 _ _ _).trans e3), (cell1 n8 _ _ _).trans ((cell1 n7 _ _ _).trans e4), (cell1 n4 _ _ _).trans ((cell1 n3 _ _ _).trans e5)⟩ | exact ⟨a0, q0, q1, q2, q3, a1⟩ | go_keep) (first
          | (go_at_call 49; (with_reducible refine (HDO2.out _ _ _ ((Below.refl _ _).drew) (HTY.out _ ((Below.refl _ _).drew))).mono ?_); rintro e w2 ⟨rfl, hb2⟩; have hbx : Below wr.heap.size wr w2 := Below.trans ((Below.refl _ _).drew) hb2; obtain ⟨⟨e0, e1, e2, e3, e4, e5⟩, k1, k2⟩ := HZ.out _ hbx; have r0 : w2.cell? ⟨br, 0, none⟩ = _ := k1.cell 0; have r3 : w2.frozen? ⟨br, 0, none⟩ = false := k1.frozen 0; have r6 : w2.cell? ⟨be, 0, none⟩ = _ := k2.cell 0; have r7 : w2.frozen? ⟨be, 0, none⟩ = false := k2.frozen 0; have r8 := k1.lt; have r9 := k2.lt; have HBX := Lib.hid hbx; have HK1 := Lib.hid k1; have HK2 := Lib.hid k2; clear hb2 hbx k1 k2))
        obtain ⟨W3, hW3⟩ : ∃ W3, ((w2.setCell ⟨br, 0, none⟩ (.int .i64 Rl)).setCell ⟨be, 0, none⟩ (.int .i64 Re)) = W3 := ⟨_, rfl⟩
        have hr3 := InG.res (w := w2) (InG.below (w := wr) (y := yy) (er := ee) (D := D ++ L) ⟨i1, i2, i3, i4, A2, c2, by rw [HHN.out]; exact g5, by rw [HHN.out]; exact g6, by rw [HHN.out]; exact g7, g8, g9⟩ HBX.out) Rl Re
        rw [hW3] at hr3 ⊢
        have HF3 : Hid (Frm S1 (w.alloc (.cells (exC t A c) 24)) W3) := Lib.hid ((HFW.out.trans (Frm.of_below HBX.out)).trans hr3.2)
        clear hW3 e0 e1 e2 e3 e4 e5 r0 r3 r6 r7 r8 r9 hK0 a0 a1 g5 g6 g7 g8 g9 l3 l4 q0 q1 q2 q3 HK1 HK2 w1 l2 hszr hfw hfx HTY HZ HDO2
        obtain ⟨⟨j1, j2, j3, j4, A3, c3, g5, g6, g7, g8, g9⟩, _⟩ := hr3
        rw [HHN.out] at g5
        have g6p : OwnV W3 B0 (.slice A3 f c3) f D := by have := g6.pre; rw [HHF.out] at this; exact this
        obtain ⟨A', c', eq1, hT3, hn3, hs3⟩ := g6.form
        have e1 : A3 = A' ∧ c3 = c' := by injection eq1 with x1 x2 x3; exact ⟨x1, x3⟩
        obtain ⟨rfl, rfl⟩ := e1
        have G5 := Lib.hid g5
        have G8 := Lib.hid g8
        have G9 := Lib.hid g9
        have G6 := Lib.hid g6p
        have G7 : Hid (∀ k, (Value.slice A3 n2 c3).ownBlock = some k → S1 k) := Lib.hid (by rw [HHN.out] at g7; exact g7)
        have a1 : W3.cell? ⟨bd, 0, none⟩ = some (.slice A3 n2 c3) := g5.cell 0
        have a2 := g5.frozen 0
        have l3 := g5.lt
        have b0 : W3.cell? ⟨br, 0, none⟩ = some (.int .i64 Rl) := g8.cell 0
        have l4 := g8.lt
        have b3 : W3.cell? ⟨be, 0, none⟩ = some (.int .i64 Re) := g9.cell 0
        have l5 := g9.lt
        have hcap : f ≤ c3 := by
          obtain ⟨_, ⟨hv, h0⟩ | ⟨g, cap, cur, hv, hg, hh, hnc, _⟩⟩ := g6p
          · omega
          · injection hv with x1 x2 x3; omega
        clear g5 g6 g6p g7 g8 g9 hT3 eq1
        have n9 : ¬ be = bd := fun e => n4 e.symm
        have hlo : w.heap.size + 1 ≤ W3.heap.size := by have := (HX.out _ HF3.out).2.2.2.2; omega
        rcases A3 with _ | ad3
        · obtain ⟨z1, z2⟩ := hn3 rfl
          rw [HHN.out] at z1
          obtain rfl : c3 = 0 := z2
          obtain rfl : f = 0 := by omega
          have HOW : Hid (∀ ob, OwnV (W3.drew.alloc ob) B0 (.slice none 0 0) 0 D) := Lib.hid (fun ob => World.ownsRow.alloc (w := W3.drew) G6.out ob)
          have HAP : Hid (∀ A4 c4 w4 ob, OwnV w4 B0 (.slice A4 (0 + 1) c4) (0 + 1) (D ++ [Rl]) → (W3.drew.alloc ob).grownBy w4 (Value.slice none 0 0).ownBlock → (∀ k, (Value.slice A4 (0 + 1) c4).ownBlock = some k → (Value.slice none 0 0).ownBlock = some k ∨ k = (W3.drew.alloc ob).heap.size) → _) := Lib.hid (fun A4 c4 w4 ob x1 x2 x3 => InG.app HHF.out j1 j2 j3 j4 G5.out G6.out G7.out G8.out G9.out (fun b hb => HSF.out b (by omega)) x1 x2 x3)
          clear hn3 hs3
          go_wp2
          go_region_law (first
            | (refine step_app_val rfl (.tmp 40) (.tmp 42) rfl B0 none 0 0 D rfl (HOW.out _) ⟨W3.drew.heap.size, 0, none⟩ Rl rfl (cell_one_new W3.drew _ _) (by simp; omega) (by omega) ?_; intro A4 c4 w4 ho4 hg4 hl4; have ha4 := HAP.out A4 c4 w4 _ ho4 hg4 hl4; have v1 : w4.cell? ⟨bd, 0, none⟩ = _ := ha4.2.2.1.cell 0; have v2 : w4.frozen? ⟨bd, 0, none⟩ = false := ha4.2.2.1.frozen 0; have v3 := ha4.2.2.1.lt; have v4 : w4.cell? ⟨be, 0, none⟩ = some (.int .i64 Re) := ha4.2.2.2.cell 0; have v5 := ha4.2.2.2.lt; have HA4 := Lib.hid ha4; clear ha4 ho4 hg4 hl4))
          all_goals
            go_wp2
            go_ret
            have hfin : Frm S w _ := (HX.out _ (HF3.out.trans HA4.out.2.1)).2.1
            have hin := HA4.out.1.widen HS1.out
            exact ⟨rfl, hfin, fun _ => hin, _, hin⟩
        · obtain ⟨g3, hg3, hg4, hg5⟩ := hs3 ad3 rfl
          subst hg3
          have hcap2 : (f : Int) ≤ (c3 : Int) := by omega
          have HOW : Hid (∀ ob, OwnV (W3.drew.alloc ob) B0 (.slice (some ⟨g3, 0, none⟩) f c3) f D) := Lib.hid (fun ob => World.ownsRow.alloc (w := W3.drew) G6.out ob)
          have HAP : Hid (∀ A4 c4 w4 ob, OwnV w4 B0 (.slice A4 (f + 1) c4) (f + 1) (D ++ [Rl]) → (W3.drew.alloc ob).grownBy w4 (Value.slice (some ⟨g3, 0, none⟩) f c3).ownBlock → (∀ k, (Value.slice A4 (f + 1) c4).ownBlock = some k → (Value.slice (some ⟨g3, 0, none⟩) f c3).ownBlock = some k ∨ k = (W3.drew.alloc ob).heap.size) → _) := Lib.hid (fun A4 c4 w4 ob x1 x2 x3 => InG.app HHF.out j1 j2 j3 j4 G5.out G6.out G7.out G8.out G9.out (fun b hb => HSF.out b (by omega)) x1 x2 x3)
          clear hn3 hs3
          go_wp2
          go_region_law (first
            | (refine step_app_val rfl (.tmp 40) (.tmp 42) rfl B0 (some ⟨g3, 0, none⟩) f c3 D rfl (HOW.out _) ⟨W3.drew.heap.size, 0, none⟩ Rl rfl (cell_one_new W3.drew _ _) (by simp; omega) (by omega) ?_; intro A4 c4 w4 ho4 hg4 hl4; have ha4 := HAP.out A4 c4 w4 _ ho4 hg4 hl4; have v1 : w4.cell? ⟨bd, 0, none⟩ = _ := ha4.2.2.1.cell 0; have v2 : w4.frozen? ⟨bd, 0, none⟩ = false := ha4.2.2.1.frozen 0; have v3 := ha4.2.2.1.lt; have v4 : w4.cell? ⟨be, 0, none⟩ = some (.int .i64 Re) := ha4.2.2.2.cell 0; have v5 := ha4.2.2.2.lt; have HA4 := Lib.hid ha4; clear ha4 ho4 hg4 hl4))
          all_goals
            go_wp2
            go_ret
            have hfin : Frm S w _ := (HX.out _ (HF3.out.trans HA4.out.2.1)).2.1
            have hin := HA4.out.1.widen HS1.out
            exact ⟨rfl, hfin, fun _ => hin, _, hin⟩
end Go.Proofs.Ytcdpjodnbegepaa
