/- The contract of the specification's typed and of its Type, of layer 30 (terms). -/
import Derived.Test.YtcdpjodnbegepaaJu
namespace Go.Proofs.Ytcdpjodnbegepaa
open Go.RowKit

theorem OwnT.made (w : World) (B : Nat) (hB : B ≤ w.heap.size) : OwnT (w.alloc (.cells #[] 39)) B (.slice (some ⟨w.heap.size, 0, none⟩) 0 0) 0 [] := World.ownsRow_made w #[] 0 hB (Nat.zero_le _) rfl
theorem OwnT.below {w w' : World} {B : Nat} {v : Value} {n : Nat} {l : List Ty} (h : OwnT w B v n l) (hb : Below w.heap.size w w') : OwnT w' B v n l := h.kept (S := fun b => w.heap.size ≤ b) (Frm.of_below hb) (fun k hk => by have := h.lt k hk; omega)
set_option maxRecDepth 100000 in
set_option maxHeartbeats 8000000 in
theorem rf_typed (vs : List Vr) (V : Option Addr) (cv : Nat) (nx : Bool) (hvl : vs.length ≤ 1000000000) : ∀ (n : Nat) t, t.sz ≤ n → n ≤ 100000000 → Good t → ∀ A c w, Vars w.heap.size w V vs → Rep w.heap.size w A t →
    Calls Try.prog 47 #[.slice V vs.length cv, exV t A c, .bool nx] w (TyE (fd ty0 (nodeT vs nx) t) w) := by
  intro n
  induction n with
  | zero => intro t h; have := sz_eq t; omega
  | succ n ih =>
    intro t ht hn hg A c w hV hR
    have hN := hg.node
    by_cases ho : t.op ≤ 4
    · have hks : t.ks = [] := by
        obtain ⟨_, _, _, _, _, _, _, h2⟩ := hN
        unfold kidM at h2
        rw [if_pos (by obtain ⟨h1, _⟩ := hg.node; omega)] at h2
        exact List.eq_nil_of_length_eq_zero (by omega)
      have e : fd ty0 (nodeT vs nx) t = nodeT vs nx t [] := by rw [fd_eq, hks]; rfl
      rw [e]
      exact rf_typed_leaf vs V cv nx t A c w hV hvl ⟨hN.1, ho⟩
    obtain ⟨W, hW⟩ : ∃ W, (w.alloc (.cells #[.int .i64 t.op, .int .i64 t.vr, .string t.nm, .slice A t.ks.length c] 24)).alloc (.cells #[.bool false, .int .i64 0, .int .i64 0] 39) = W := ⟨_, rfl⟩
    have hJ := typW t A c w
    rw [hW] at hJ
    have HJ := Lib.hid hJ
    have p0 : W.cell? ⟨w.heap.size, 0, none⟩ = some (.int .i64 t.op) := hJ.b0.cell 0
    have p1 : W.cell? ⟨w.heap.size, 1, none⟩ = some (.int .i64 t.vr) := hJ.b0.cell 1
    have p2 : W.cell? ⟨w.heap.size, 2, none⟩ = some (.string t.nm) := hJ.b0.cell 2
    have p3 : W.cell? ⟨w.heap.size, 3, none⟩ = some (.slice A t.ks.length c) := hJ.b0.cell 3
    have pl := hJ.b0.lt
    have r0 : W.cell? ⟨w.heap.size + 1, 0, none⟩ = some (.bool false) := hJ.b1.cell 0
    have r1 : W.cell? ⟨w.heap.size + 1, 1, none⟩ = some (.int .i64 0) := hJ.b1.cell 1
    have r2 : W.cell? ⟨w.heap.size + 1, 2, none⟩ = some (.int .i64 0) := hJ.b1.cell 2
    have r3 := hJ.b1.frozen 0
    have r4 := hJ.b1.frozen 1
    have r5 := hJ.b1.frozen 2
    have rl := hJ.b1.lt
    have G1 := Lib.hid hJ.b1
    have HBW := Lib.hid hJ.hb
    have HWW := Lib.hid hW
    have hlen := szL_len t.ks
    have hszt := sz_eq t
    have hkb : t.ks.length ≤ 100000000 := by omega
    have HIH := Lib.hid (fun k (hk : k < t.ks.length) => ih (kd t.ks k) (by have := kd_sz hk; omega) (by omega) (hg.kid (kd_mem hk)))
    have HR := Lib.hid hR
    have HV := Lib.hid hV
    have HG := Lib.hid hg
    have HFP := Lib.hid (fun t h1 h2 => fd_pk (z := ty0) (nd := nodeT vs nx) (ok := Good) (pk := TyK) (fun t h k hk => h.kid hk) (fun t l _ _ _ _ => node_k vs nx t l) t h1 h2)
    obtain ⟨R, hRR⟩ : ∃ R, fd ty0 (nodeT vs nx) t = R := ⟨_, rfl⟩
    rw [hRR]
    have HRR := Lib.hid hRR
    obtain ⟨RL, hRL⟩ : ∃ RL, fdL ty0 (nodeT vs nx) t.ks = RL := ⟨_, rfl⟩
    have HRL := Lib.hid hRL
    have e1 : (t.op == 1) = false := by simp; omega
    have e2 : (t.op == 2) = false := by simp; omega
    have e3 : (t.op == 3) = false := by simp; omega
    have e4 : (t.op == 4) = false := by simp; omega
    have HOP : Hid (5 ≤ t.op) := Lib.hid (by omega)
    show Calls Try.prog 47 #[.slice V vs.length cv, .agg #[.int .i64 t.op, .int .i64 t.vr, .string t.nm, .slice A t.ks.length c], .bool nx] w _
    have HO0 : Hid (OwnT (W.alloc (.cells #[] 39)) (w.heap.size + 1 + 1) (.slice (some ⟨W.heap.size, 0, none⟩) 0 0) 0 []) := Lib.hid (OwnT.made W _ hJ.hz)
    have HB0 : Hid (Below (w.heap.size + 1 + 1) W (W.alloc (.cells #[] 39))) := Lib.hid ((Below.refl _ _).alloc hJ.hz _)
    clear ih hg hR hV hRR hRL hlen hszt hJ hW hN ho ht r0 r1 r2 r3 r4 r5 rl p1 p2
    go_enter Try.func47, Try.ntmps47
    go_upto_region 1 with (go_at_call 999)
    rw [HWW.out]
    go_wp2
    go_loopw [7, 9, 10] (fun r7 lv i wr => ∃ (k : Nat) (L : List Ty), k ≤ t.ks.length ∧ r7 = .int .i64 0 ∧ i = .int .i64 (k : Int) ∧ Hid (L.length = k ∧ Rest ty0 (nodeT vs nx) L (t.ks.drop k) RL ∧ ∀ y, y ∈ L → TyK y) ∧ Hid (OwnT wr (w.heap.size + 1 + 1) lv k L) ∧ Hid (Below (w.heap.size + 1 + 1) W wr)) (fun _ _ i _ => t.ks.length - (intOf i).toNat)
    case atStart => exact ⟨0, [], Nat.zero_le _, rfl, rfl, Lib.hid ⟨rfl, by show RL = _; rw [← HRL.out]; rfl, fun y hy => by cases hy⟩, HO0, HB0⟩
    case round =>
      obtain ⟨k, L, hk, rfl, rfl, HL, HO, HB⟩ := hrel
      have hJ := HJ.out.step HB.out
      have q0 : wr.cell? ⟨w.heap.size, 0, none⟩ = some (.int .i64 t.op) := hJ.b0.cell 0
      have q1 : wr.cell? ⟨w.heap.size, 1, none⟩ = some (.int .i64 t.vr) := hJ.b0.cell 1
      have q2 : wr.cell? ⟨w.heap.size, 2, none⟩ = some (.string t.nm) := hJ.b0.cell 2
      have q3 : wr.cell? ⟨w.heap.size, 3, none⟩ = some (.slice A t.ks.length c) := hJ.b0.cell 3
      have ql := hJ.b0.lt
      obtain ⟨A9, c9, rfl, hT9, _, _⟩ := HO.out.form
      have HJr := Lib.hid hJ
      clear hJ
      by_cases hlt : k < t.ks.length
      · have l1 : (k : Int) < (t.ks.length : Int) := by omega
        obtain ⟨b, f0, rfl, hb, hc⟩ := HR.out.out (by omega)
        obtain ⟨ka, kc, c0, c1, c2, c3, hRk⟩ := hc k hlt
        have hbw := HJr.out.hb
        have d0 := (hbw.cell (p := ⟨b, f0 + k * 4, none⟩) hb).trans c0
        have d1 := (hbw.cell (p := ⟨b, f0 + k * 4 + 1, none⟩) hb).trans c1
        have d2 := (hbw.cell (p := ⟨b, f0 + k * 4 + 2, none⟩) hb).trans c2
        have d3 := (hbw.cell (p := ⟨b, f0 + k * 4 + 3, none⟩) hb).trans c3
        have HC := Lib.hid (HIH.out k hlt ka kc wr (HV.out.step hbw) (hRk.step hbw))
        obtain ⟨hLk, hrest, hkL⟩ := HL.out
        have hgk := HG.out.kid (kd_mem hlt)
        have HNX := Lib.hid (fun h0 => hrest.next ty0 (nodeT vs nx) hlt h0)
        have HST := Lib.hid (fun h0 => hrest.stop ty0 (nodeT vs nx) hlt h0)
        have HPK := Lib.hid (HFP.out _ hgk)
        have HER := Lib.hid (fd_err vs nx (kd t.ks k))
        have HKL := Lib.hid hkL
        have HLK := Lib.hid hLk
        clear hc c0 c1 c2 c3 hRk hbw hLk hrest hkL hgk HL hT9
        generalize fd ty0 (nodeT vs nx) (kd t.ks k) = Y at *
        generalize kd t.ks k = u at *
        obtain ⟨⟨yb, yl, yh⟩, ye⟩ := Y
        by_cases he : ye = 0
        · subst he
          have X2 : Hid ((L ++ [(⟨yb, yl, yh⟩ : Ty)]).length = k + 1 ∧ Rest ty0 (nodeT vs nx) (L ++ [(⟨yb, yl, yh⟩ : Ty)]) (t.ks.drop (k + 1)) RL ∧ ∀ y, y ∈ L ++ [(⟨yb, yl, yh⟩ : Ty)] → TyK y) := Lib.hid ⟨by rw [List.length_append, HLK.out]; rfl, HNX.out rfl, fun y hy => by
            rcases List.mem_append.1 hy with h | h
            · exact HKL.out y h
            · rw [List.mem_singleton.1 h]; exact HPK.out rfl⟩
          go_wp2_with (first
            | (go_at_call 47; (with_reducible refine HC.out.mono ?_); rintro e w3 ⟨rfl, hb3⟩; have HO3 := Lib.hid (((HO.out.below hb3).below (al (Below.refl _ _) (.cells #[.bool yb, .int .i64 yl, .int .i64 yh] 39))).below (al (Below.refl _ _) (.cells #[.bool yb, .int .i64 yl, .int .i64 yh] 39))); have HB3 := Lib.hid (HB.out.trans ((al (al hb3 (.cells #[.bool yb, .int .i64 yl, .int .i64 yh] 39)) (.cells #[.bool yb, .int .i64 yl, .int .i64 yh] 39)).mono HJr.out.hz)); have hz3 : w.heap.size + 1 + 1 ≤ w3.heap.size := Nat.le_trans HJr.out.hz hb3.size; clear hb3)
            | (at_builtin; refine wpList_app_ty rfl _ _ rfl _ (w.heap.size + 1 + 1) k (.slice A9 k c9) L rfl HO3.out ⟨w3.heap.size + 1, 0, none⟩ ⟨yb, yl, yh⟩ rfl (by have h := cells_three (w3.alloc (.cells #[.bool yb, .int .i64 yl, .int .i64 yh] 39)) 39 (.bool yb) (.int .i64 yl) (.int .i64 yh); have z : (w3.alloc (.cells #[.bool yb, .int .i64 yl, .int .i64 yh] 39)).heap.size = w3.heap.size + 1 := (by simp); rw [z] at h; exact h) (by simp; omega) (by omega) ?_; intro A4 c4 w4 ho4 hb4; have HO4 := Lib.hid ho4; have HB4 := Lib.hid (HB3.out.trans hb4); clear ho4 hb4))
          go_roundw
          case rel => exact ⟨k + 1, L ++ [(⟨yb, yl, yh⟩ : Ty)], by omega, rfl, by go_num, X2, HO4, HB4⟩
          case measure => simp [intOf]; try omega
        · have X2 : Hid (R = (ty0, ye)) := Lib.hid (by
            obtain ⟨s1, s2⟩ := HST.out he
            have s1' : RL.1.2 = ⟨yb, yl, yh⟩ := s1
            have s2' : RL.2 = ye := s2
            have s3 : (⟨yb, yl, yh⟩ : Ty) = ty0 := HER.out he
            rw [← HRR.out, fd_eq, HRL.out, s2', if_neg he, s1', s3])
          have he1 : (ye == 0) = false := by simp [he]
          have he2 : (ye != 0) = true := by simp [he]
          rw [X2.out]
          go_wp2_with (go_at_call 47; (with_reducible refine HC.out.mono ?_); rintro e w3 ⟨rfl, hb3⟩; have g3 := (HJr.out.step ((al hb3 (.cells #[.bool yb, .int .i64 yl, .int .i64 yh] 39)).mono HJr.out.hz)).b1; have g0 := (HJr.out.step (hb3.mono HJr.out.hz)).b1; have r0 : w3.cell? ⟨w.heap.size + 1, 0, none⟩ = _ := g0.cell 0; have r1 : w3.cell? ⟨w.heap.size + 1, 1, none⟩ = _ := g0.cell 1; have r2 : w3.cell? ⟨w.heap.size + 1, 2, none⟩ = _ := g0.cell 2; have r3 := g0.frozen 0; have r4 := g0.frozen 1; have r5 := g0.frozen 2; have rl := g0.lt; have G3 := Lib.hid g3; have HB3 := Lib.hid (bt HJr.out.hb (al hb3 (.cells #[.bool yb, .int .i64 yl, .int .i64 yh] 39))); have G0 := Lib.hid g0; have HB0' := Lib.hid (bt HJr.out.hb hb3); clear hb3 g3 g0)
          first
            | (refine bodyPost_ret (res_ty rfl _ _ (w.heap.size + 1) _ _ _ rfl (((G3.out.set_ 0 _).set_ 1 _).set_ 2 _)) rfl ⟨rfl, ?_⟩; exact below_set (below_set (below_set HB3.out (by omega) _ _) (by omega) _ _) (by omega) _ _)
            | (refine bodyPost_ret (res_ty rfl _ _ (w.heap.size + 1) _ _ _ rfl ((((G0.out.set_ 0 _).set_ 1 _).set_ 2 _).alloc _)) rfl ⟨rfl, ?_⟩; exact al (below_set (below_set (below_set HB0'.out (by omega) _ _) (by omega) _ _) (by omega) _ _) _)
      · have l1 : ¬ (k : Int) < (t.ks.length : Int) := by omega
        obtain rfl : k = t.ks.length := by omega
        obtain ⟨hLk, hrest, hkL⟩ := HL.out
        have hdone := hrest.done ty0 (nodeT vs nx)
        have X : Hid (R = tyOf t L) := Lib.hid (by
          rw [← HRR.out, fd_eq, HRL.out, hdone, if_pos rfl]
          unfold nodeT
          rw [if_neg (by have := HOP.out; omega)])
        have HCJ : Hid (Calls Try.prog 68 #[exV t A c, .slice A9 t.ks.length c9] wr (TyE R wr)) := Lib.hid (by
          rw [X.out]
          have := rf_join t A c L A9 c9 wr HG.out (HR.out.step HJr.out.hb) hT9 hLk HOP.out hkL
          rw [hLk] at this
          exact this)
        clear hLk hrest hkL hdone hT9 HL X
        obtain ⟨⟨Rb, Rl, Rh⟩, Re⟩ := R
        go_wp2_with (go_at_call 68; (with_reducible refine HCJ.out.mono ?_); rintro e w3 ⟨rfl, hb3⟩; have g3 := (HJr.out.step (hb3.mono HJr.out.hz)).b1; have r0 : w3.cell? ⟨w.heap.size + 1, 0, none⟩ = _ := g3.cell 0; have r1 : w3.cell? ⟨w.heap.size + 1, 1, none⟩ = _ := g3.cell 1; have r2 : w3.cell? ⟨w.heap.size + 1, 2, none⟩ = _ := g3.cell 2; have r3 := g3.frozen 0; have r4 := g3.frozen 1; have r5 := g3.frozen 2; have rl := g3.lt; have G3 := Lib.hid g3; have HB3 := Lib.hid (bt HJr.out.hb hb3); clear hb3 g3)
        refine bodyPost_ret (res_ty rfl _ _ (w.heap.size + 1) _ _ _ rfl (((G3.out.set_ 0 _).set_ 1 _).set_ 2 _)) rfl ⟨rfl, ?_⟩
        exact below_set (below_set (below_set HB3.out (by omega) _ _) (by omega) _ _) (by omega) _ _
end Go.Proofs.Ytcdpjodnbegepaa
