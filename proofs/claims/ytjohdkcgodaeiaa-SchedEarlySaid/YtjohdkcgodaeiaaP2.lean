/- candidates: what speaks for each part left; layer 42 (sched). -/
import Derived.Test.YtjohdkcgodaeiaaC0
namespace Go.Proofs.Ytjohdkcgodaeiaa
open Go.RowKit

def alQ (o : List Int) (F : Int → Int) (v : Int) : Bool := mem o v && (F v == 1)
/-- The candidate of part k. -/
def cdOf (S : List Rw) (o : List Int) (F : Int → Int) (G : Int → Bool) (k : Nat) : Cd :=
  ⟨(k : Int), ((((rw_ S k).2.2.filter (alQ o F)).length : Nat) : Int), ((((rw_ S k).2.2.filter fun v => !G v).length : Nat) : Int)⟩
def cdL (S : List Rw) (o : List Int) (F : Int → Int) (G : Int → Bool) (R : List Nat) : List Cd := R.map (cdOf S o F G)
/-- The first i candidates, and zeros. -/
def cdP (C : List Cd) (i : Nat) : List Cd := C.take i ++ List.replicate (C.length - i) ⟨0, 0, 0⟩
theorem cdP_len (C : List Cd) {i : Nat} (h : i ≤ C.length) : (cdP C i).length = C.length := by unfold cdP; simp; omega
theorem cdP_zero (C : List Cd) : cdP C 0 = List.replicate C.length ⟨0, 0, 0⟩ := by unfold cdP; simp
theorem cdP_all (C : List Cd) : cdP C C.length = C := by unfold cdP; simp
theorem cdP_at {C : List Cd} {i : Nat} (h : i < C.length) : cdAt (cdP C i) i = ⟨0, 0, 0⟩ := by
  unfold cdP cdAt
  rw [List.getD_eq_getElem?_getD, List.getElem?_append_right (by rw [List.length_take]; omega), List.length_take]
  have : i - min i C.length = 0 := by omega
  rw [this, List.getElem?_replicate, if_pos (by omega)]; rfl
theorem cdP_set {C : List Cd} {i : Nat} (h : i < C.length) : (cdP C i).set i (cdAt C i) = cdP C (i + 1) := by
  unfold cdP
  have e : C.length - i = (C.length - (i + 1)) + 1 := by omega
  rw [List.set_append_right _ _ (by rw [List.length_take]; omega), List.length_take]
  have e0 : i - min i C.length = 0 := by omega
  rw [e0, e, List.replicate_succ, List.set_cons_zero, List.take_succ_eq_append_getElem h, List.append_assoc]
  congr 1
  unfold cdAt
  simp [List.getD, List.getElem?_eq_getElem h]
theorem set_at {C : List Cd} {i : Nat} {c : Cd} (h : i < C.length) : cdAt (C.set i c) i = c := by unfold cdAt; simp [List.getD, h]
theorem cdL_at {S : List Rw} {o : List Int} {F : Int → Int} {G : Int → Bool} {R : List Nat} {i : Nat} (h : i < R.length) : cdAt (cdL S o F G R) i = cdOf S o F G (R.getD i 0) := by
  unfold cdAt cdL; simp [List.getD, List.getElem?_eq_getElem h]
theorem filt_succ {l : List Int} {p : Int → Bool} {j : Nat} (h : j < l.length) : ((l.take (j + 1)).filter p).length = ((l.take j).filter p).length + if p (li l j) then 1 else 0 := by
  rw [List.take_succ_eq_append_getElem h, List.filter_append, List.length_append, li_get h]
  cases e : p l[j] <;> simp [e]
theorem filt_le {l : List Int} {p : Int → Bool} (j : Nat) : ((l.take j).filter p).length ≤ l.length := by
  have := List.length_filter_le p (l.take j)
  rw [List.length_take] at this; omega
set_option maxRecDepth 100000 in
set_option maxHeartbeats 8000000 in
theorem p_candidates (w : World) (Z : Nat) (K : Kc) (S : List Rw) (o : List Int) (R : List Nat) (n : Nat) (F : Int → Int) (G : Int → Bool) (h : Ch w Z K S o R n F G)
    (hR : ∀ k ∈ R, k < S.length) (hr : R.length ≤ 1000000) (hs : ∀ k, k < S.length → (rw_ S k).2.2.length ≤ 1000000) (hv : ∀ k, k < S.length → ∀ v ∈ (rw_ S k).2.2, In64 v) (hS : S.length ≤ 1000000) :
    Calls Try.prog 22 #[.pointer (some ⟨K.c, 0, none⟩)] w fun e w' => ∃ g, e = .returned (.slice (some ⟨g, 0, none⟩) R.length R.length) ∧ Blk w' g 50 (cdRow (cdL S o F G R)) ∧ Below w.heap.size w w' := by
  have H := Lib.hid h
  have HR := Lib.hid hR
  have HSL := Lib.hid hs
  have HV := Lib.hid hv
  obtain ⟨_, _, k2, _, _⟩ := h.cells
  obtain ⟨Ar, cr, hrv, hri⟩ := h.rest.form
  rw [hrv] at k2
  have HRV := Lib.hid hrv
  have HRI := Lib.hid hri
  have hcl := h.blk.lt
  have mk := run_mkc R.length hr
  have HCL : Hid ((cdL S o F G R).length = R.length) := Lib.hid (by unfold cdL; simp)
  obtain ⟨C, hC⟩ : ∃ C, cdL S o F G R = C := ⟨_, rfl⟩
  have HCA : Hid (∀ i, i < R.length → cdAt C i = cdOf S o F G (R.getD i 0)) := Lib.hid (fun i hi => by rw [← hC]; exact cdL_at hi)
  rw [hC] at HCL ⊢
  have hmk : Blk (w.alloc (.cells (cdRow (List.replicate R.length ⟨0, 0, 0⟩)) 50)) w.heap.size 50 (cdRow (cdP C 0)) := by rw [cdP_zero, HCL.out]; exact Blk.new _ _ _
  have HMK := Lib.hid hmk
  have hb0 : Below w.heap.size w (w.alloc (.cells (cdRow (List.replicate R.length ⟨0, 0, 0⟩)) 50)) := (Below.refl _ _).alloc (Nat.le_refl _) _
  have HB0 := Lib.hid hb0
  have k2' := (hb0.cell (p := ⟨K.c, 2, none⟩) hcl).trans k2
  generalize hbox : w.alloc (.cells (cdRow (List.replicate R.length ⟨0, 0, 0⟩)) 50) = W at *
  have HBOX : Hid (W.heap.size = w.heap.size + 1) := Lib.hid (by rw [← hbox]; simp)
  have mk2 : (Instr.makeSlice 52 (.int .i64 (R.length : Int)) (.int .i64 (R.length : Int))).run Try.prog w = .ok (.slice (some ⟨w.heap.size, 0, none⟩) R.length R.length) W := by rw [mk, hbox]
  clear h hR hs hv hri hC hmk hb0 hbox mk hrv
  go_enter Try.func22, Try.ntmps22
  go_wp2
  go_loopw [19] (fun i wr => ∃ t : Nat, t ≤ R.length ∧ i = .int .i64 (t : Int) ∧ Hid (Blk wr w.heap.size 50 (cdRow (cdP C t))) ∧ Below w.heap.size w wr) (fun i _ => R.length - (intOf i).toNat)
  case atStart => exact ⟨0, Nat.zero_le _, rfl, HMK, HB0.out⟩
  case round =>
    obtain ⟨t, ht, rfl, HBK, hb⟩ := hrel
    by_cases hlt : t < R.length
    · have h1 : (t : Int) < (R.length : Int) := by omega
      have h0 : (0 : Int) ≤ (t : Int) := by omega
      have HB := Lib.hid hb
      have HS1 := H.out.below hb
      obtain ⟨c0, c1, c2, c3, c4⟩ := HS1.cells
      rw [HRV.out] at c2
      have hB := HBK.out
      have HBL : Hid ((cdP C t).length = R.length) := Lib.hid (by rw [cdP_len C (by rw [HCL.out]; omega), HCL.out])
      obtain ⟨z0, _, _⟩ := cd_three hB (k := t) (by rw [HBL.out]; exact hlt)
      have zf := hB.frozen (t * 3)
      obtain ⟨br, orr, hAr, hbr, hcr⟩ := (HRI.out.step hb) (by rw [nl_len]; omega)
      subst hAr
      have r1 := hcr t (by rw [nl_len]; exact hlt)
      rw [nl_at hlt] at r1
      have hin := HR.out _ (getD_mem hlt)
      have hca := HCA.out t hlt
      obtain ⟨k, hk⟩ : ∃ k, R.getD t 0 = k := ⟨_, rfl⟩
      rw [hk] at r1 hin hca
      have HIN := Lib.hid hin
      have hsl := HSL.out k hin
      have hvl := HV.out k hin
      have HCK := Lib.hid hca
      have HBW1 : Hid (Below w.heap.size w (wr.setCell ⟨w.heap.size, t * 3, none⟩ (.int .i64 (k : Int)))) := Lib.hid (hb.setCell (p := ⟨w.heap.size, t * 3, none⟩) (Nat.le_refl _) _)
      have HBK1 : Hid (Blk (wr.setCell ⟨w.heap.size, t * 3, none⟩ (.int .i64 (k : Int))) w.heap.size 50 (cdRow ((cdP C t).set t ⟨(k : Int), 0, 0⟩))) := Lib.hid (by
        have h2 := hB.set_ (t * 3) (.int .i64 (k : Int))
        rwa [← Nat.add_zero (t * 3), cdRow_set (c := ⟨(k : Int), 0, 0⟩) (by rw [HBL.out]; exact hlt) (by omega) (by rw [cdP_at (by rw [HCL.out]; exact hlt)]; rfl)] at h2)
      clear hB hcr hk hca HS1 HBK
      go_upto_region 6 with (fail)
      obtain ⟨W1, hW1⟩ : ∃ W, W = wr.setCell ⟨w.heap.size, t * 3, none⟩ (.int .i64 (k : Int)) := ⟨_, rfl⟩
      rw [← hW1]
      rw [← hW1] at HBW1 HBK1
      have HS2 := H.out.below HBW1.out
      clear hW1 c0 c1 c2 c3 c4 z0 zf r1 hb
      obtain ⟨c0, _, _, _, _⟩ := HS2.cells
      obtain ⟨sb, so, hSA, _, hsb, hsc⟩ := HS2.sets.at_ (by omega)
      have hx := hsc k HIN.out
      rw [hSA] at c0
      have hk0 : (0 : Int) ≤ (k : Int) := by omega
      have hk1 : (k : Int) < (S.length : Int) := by have := HIN.out; omega
      have hrow := H.out.sets.ri HIN.out
      unfold rcell at hx
      obtain ⟨⟨Ak, cak, l⟩, hrk⟩ : ∃ r, rw_ S k = r := ⟨_, rfl⟩
      have HCK2 : Hid (cdAt C t = ⟨(k : Int), (((l.filter (alQ o F)).length : Nat) : Int), (((l.filter fun v => !G v).length : Nat) : Int)⟩) := Lib.hid (by rw [HCK.out]; unfold cdOf; rw [hrk])
      rw [hrk] at hx hsl hvl hrow
      dsimp only at hx hsl hvl hrow
      have HRW := Lib.hid hrow
      have HVL := Lib.hid hvl
      have HL0 : Hid (∀ x : Cd, ((cdP C t).set t x).length = R.length) := Lib.hid (fun x => by rw [List.length_set]; exact HBL.out)
      clear hrow hrk hsc HS2 hvl hin
      go_wp2
      clear hx
      go_loopw [37] (fun i wr => ∃ j : Nat, j ≤ l.length ∧ i = .int .i64 (j : Int) ∧ Hid (Blk wr w.heap.size 50 (cdRow ((cdP C t).set t ⟨(k : Int), ((((l.take j).filter (alQ o F)).length : Nat) : Int), ((((l.take j).filter fun v => !G v).length : Nat) : Int)⟩))) ∧ Below w.heap.size w wr) (fun i _ => l.length - (intOf i).toNat)
      case atStart => exact ⟨0, Nat.zero_le _, rfl, Lib.hid (by simpa using HBK1.out), HBW1.out⟩
      case round =>
        obtain ⟨j, hj, rfl, HBJ, hbj⟩ := hrel
        by_cases hjl : j < l.length
        · have g1 : (j : Int) < (l.length : Int) := by omega
          have g0 : (0 : Int) ≤ (j : Int) := by omega
          have HBJW := Lib.hid hbj
          have HS3 := H.out.below hbj
          obtain ⟨c0, c1, c2, c3, c4⟩ := HS3.cells
          obtain ⟨bl, ol, hAk, hbl, hcl2⟩ := HRW.out (by omega)
          subst hAk
          have e1 := (hbj.cell (p := ⟨bl, ol + j, none⟩) hbl).trans (hcl2 j hjl)
          have hv64 := HVL.out _ (li_mem hjl)
          have fa := filt_succ (l := l) (p := alQ o F) hjl
          have ff := filt_succ (l := l) (p := fun v => !G v) hjl
          have la := filt_le (l := l) (p := alQ o F) j
          have lf := filt_le (l := l) (p := fun v => !G v) j
          obtain ⟨v, hv⟩ : ∃ v, li l j = v := ⟨_, rfl⟩
          rw [hv] at e1 hv64 fa ff
          obtain ⟨a1, ha1⟩ : ∃ n, ((l.take j).filter (alQ o F)).length = n := ⟨_, rfl⟩
          obtain ⟨f1, hf1⟩ : ∃ n, ((l.take j).filter fun v => !G v).length = n := ⟨_, rfl⟩
          obtain ⟨a2, ha2⟩ : ∃ n, ((l.take (j + 1)).filter (alQ o F)).length = n := ⟨_, rfl⟩
          obtain ⟨f2, hf2⟩ : ∃ n, ((l.take (j + 1)).filter fun v => !G v).length = n := ⟨_, rfl⟩
          rw [ha1] at fa la HBJ
          rw [hf1] at ff lf HBJ
          rw [ha2] at fa
          rw [hf2] at ff
          have HA2N := Lib.hid ha2
          have HF2N := Lib.hid hf2
          have hl1 := HS3.out.look hv64
          have hl2 := HS3.left.look hv64
          obtain ⟨q1, hq1⟩ : ∃ q, mem o v = q := ⟨_, rfl⟩
          obtain ⟨x, hx⟩ : ∃ x, F v = x := ⟨_, rfl⟩
          obtain ⟨q2, hq2⟩ : ∃ q, (x == 1) = q := ⟨_, rfl⟩
          obtain ⟨q3, hq3⟩ : ∃ q, G v = q := ⟨_, rfl⟩
          have halq : alQ o F v = (q1 && q2) := by unfold alQ; rw [hq1, hx, hq2]
          rw [halq] at fa
          rw [hq3] at ff
          rw [hq1] at hl1
          rw [hx] at hl2
          have HSEEN : Hid (∀ W, Below w.heap.size w W → (Instr.lookup 41 (.map (some K.ms)) (.int .i64 v) false).run Try.prog W = .ok (.bool q3) W) := Lib.hid (fun W hW => by
            have := (H.out.below hW).seen.look hv64
            rwa [hq3] at this)
          have HFA := Lib.hid fa
          have HFF := Lib.hid ff
          have wa : IntKind.i64.wrap ((a1 : Int) + 1) = (a1 : Int) + 1 := IntWalk.i64_in _ (by omega)
          have wf : IntKind.i64.wrap ((f1 : Int) + 1) = (f1 : Int) + 1 := IntWalk.i64_in _ (by omega)
          obtain ⟨L, hL⟩ : ∃ L, (cdP C t).set t ⟨(k : Int), (a1 : Int), (f1 : Int)⟩ = L := ⟨_, rfl⟩
          have HLL : Hid (L.length = R.length) := Lib.hid (by rw [← hL]; exact HL0.out _)
          have HLA : Hid (cdAt L t = ⟨(k : Int), (a1 : Int), (f1 : Int)⟩) := Lib.hid (by rw [← hL]; exact set_at (by rw [HBL.out]; exact hlt))
          have HLE := Lib.hid hL
          have HLS : Hid (∀ x, L.set t x = (cdP C t).set t x) := Lib.hid (fun x => by rw [← hL, List.set_set])
          have hBJ := HBJ.out
          rw [hL] at hBJ
          obtain ⟨_, y1, y2⟩ := cd_three hBJ (k := t) (by rw [HLL.out]; exact hlt)
          rw [HLA.out] at y1 y2
          dsimp only at y1 y2
          have n1 := hBJ.frozen (t * 3 + 1)
          have n2 := hBJ.frozen (t * 3 + 2)
          have HBL1 := Lib.hid hBJ
          clear hv ha1 hf1 ha2 hf2 fa ff hq1 hx hq3 halq hL HBJ hBJ hcl2 HS3 hv64
          have HX : Hid (Below w.heap.size w (wr.setCell ⟨w.heap.size, t * 3 + 1, none⟩ (.int .i64 ((a1 : Int) + 1))) ∧ Blk (wr.setCell ⟨w.heap.size, t * 3 + 1, none⟩ (.int .i64 ((a1 : Int) + 1))) w.heap.size 50 (cdRow (L.set t ⟨(k : Int), (a1 : Int) + 1, (f1 : Int)⟩))) := Lib.hid ⟨HBJW.out.setCell (p := ⟨w.heap.size, t * 3 + 1, none⟩) (Nat.le_refl _) _, by
            have h2 := HBL1.out.set_ (t * 3 + 1) (.int .i64 ((a1 : Int) + 1))
            rwa [cdRow_set (c := ⟨(k : Int), (a1 : Int) + 1, (f1 : Int)⟩) (by rw [HLL.out]; exact hlt) (by omega) (by rw [HLA.out]; rfl)] at h2⟩
          have HY : Hid (∀ W (A : Int), Below w.heap.size w W → Blk W w.heap.size 50 (cdRow (L.set t ⟨(k : Int), A, (f1 : Int)⟩)) → Below w.heap.size w (W.setCell ⟨w.heap.size, t * 3 + 2, none⟩ (.int .i64 ((f1 : Int) + 1))) ∧ Blk (W.setCell ⟨w.heap.size, t * 3 + 2, none⟩ (.int .i64 ((f1 : Int) + 1))) w.heap.size 50 (cdRow (L.set t ⟨(k : Int), A, (f1 : Int) + 1⟩))) := Lib.hid (fun W A hW hK => ⟨hW.setCell (p := ⟨w.heap.size, t * 3 + 2, none⟩) (Nat.le_refl _) _, by
            have h2 := hK.set_ (t * 3 + 2) (.int .i64 ((f1 : Int) + 1))
            rwa [cdRow_set (c := ⟨(k : Int), A, (f1 : Int) + 1⟩) (by rw [List.length_set, HLL.out]; exact hlt) (by omega) (by rw [set_at (by rw [HLL.out]; exact hlt)]; rfl), List.set_set] at h2⟩)
          have HLSELF : Hid (L.set t ⟨(k : Int), (a1 : Int), (f1 : Int)⟩ = L) := Lib.hid (by rw [HLS.out, HLE.out])
          have cx4 : (wr.setCell ⟨w.heap.size, t * 3 + 1, none⟩ (.int .i64 ((a1 : Int) + 1))).cell? ⟨K.c, 4, none⟩ = some (.map (some K.ms)) := (H.out.below HX.out.1).cells.2.2.2.2
          have hl3 := HSEEN.out wr HBJW.out
          have hl4 := HSEEN.out _ HX.out.1
          have yx2 : (wr.setCell ⟨w.heap.size, t * 3 + 1, none⟩ (.int .i64 ((a1 : Int) + 1))).cell? ⟨w.heap.size, t * 3 + 2, none⟩ = some (.int .i64 (f1 : Int)) := by
            obtain ⟨_, _, h⟩ := cd_three HX.out.2 (k := t) (by rw [List.length_set, HLL.out]; exact hlt)
            rw [set_at (by rw [HLL.out]; exact hlt)] at h
            exact h
          have nx2 := HX.out.2.frozen (t * 3 + 2)
          have HBS : Hid (Blk wr w.heap.size 50 (cdRow (L.set t ⟨(k : Int), (a1 : Int), (f1 : Int)⟩))) := Lib.hid (by rw [HLSELF.out]; exact HBL1.out)
          cases q1
          · cases q3
            · have HAE : Hid ((a2 : Int) = (a1 : Int)) := Lib.hid (by rw [HFA.out]; simp)
              have HFE : Hid ((f2 : Int) = (f1 : Int) + 1) := Lib.hid (by rw [HFF.out]; simp)
              clear hl4 cx4 yx2 nx2
              go_wp2
              go_roundw
              case rel => exact ⟨j + 1, by omega, by go_num, Lib.hid (by rw [HA2N.out, HF2N.out, HAE.out, HFE.out, ← HLS.out]; exact (HY.out _ _ HBJW.out HBS.out).2), (HY.out _ _ HBJW.out HBS.out).1⟩
              case measure => simp [intOf]; omega
            · have HAE : Hid ((a2 : Int) = (a1 : Int)) := Lib.hid (by rw [HFA.out]; simp)
              have HFE : Hid ((f2 : Int) = (f1 : Int)) := Lib.hid (by rw [HFF.out]; simp)
              clear hl4 cx4 yx2 nx2
              go_wp2
              go_roundw
              case rel => exact ⟨j + 1, by omega, by go_num, Lib.hid (by rw [HA2N.out, HF2N.out, HAE.out, HFE.out, ← HLS.out]; exact HBS.out), HBJW.out⟩
              case measure => simp [intOf]; omega
          · cases q2
            · cases q3
              · have HAE : Hid ((a2 : Int) = (a1 : Int)) := Lib.hid (by rw [HFA.out]; simp)
                have HFE : Hid ((f2 : Int) = (f1 : Int) + 1) := Lib.hid (by rw [HFF.out]; simp)
                clear hl4 cx4 yx2 nx2
                go_wp2
                go_roundw
                case rel => exact ⟨j + 1, by omega, by go_num, Lib.hid (by rw [HA2N.out, HF2N.out, HAE.out, HFE.out, ← HLS.out]; exact (HY.out _ _ HBJW.out HBS.out).2), (HY.out _ _ HBJW.out HBS.out).1⟩
                case measure => simp [intOf]; omega
              · have HAE : Hid ((a2 : Int) = (a1 : Int)) := Lib.hid (by rw [HFA.out]; simp)
                have HFE : Hid ((f2 : Int) = (f1 : Int)) := Lib.hid (by rw [HFF.out]; simp)
                clear hl4 cx4 yx2 nx2
                go_wp2
                go_roundw
                case rel => exact ⟨j + 1, by omega, by go_num, Lib.hid (by rw [HA2N.out, HF2N.out, HAE.out, HFE.out, ← HLS.out]; exact HBS.out), HBJW.out⟩
                case measure => simp [intOf]; omega
            · cases q3
              · have HAE : Hid ((a2 : Int) = (a1 : Int) + 1) := Lib.hid (by rw [HFA.out]; simp)
                have HFE : Hid ((f2 : Int) = (f1 : Int) + 1) := Lib.hid (by rw [HFF.out]; simp)
                clear hl3
                go_wp2
                go_roundw
                case rel => exact ⟨j + 1, by omega, by go_num, Lib.hid (by rw [HA2N.out, HF2N.out, HAE.out, HFE.out, ← HLS.out]; exact (HY.out _ _ HX.out.1 HX.out.2).2), (HY.out _ _ HX.out.1 HX.out.2).1⟩
                case measure => simp [intOf]; omega
              · have HAE : Hid ((a2 : Int) = (a1 : Int) + 1) := Lib.hid (by rw [HFA.out]; simp)
                have HFE : Hid ((f2 : Int) = (f1 : Int)) := Lib.hid (by rw [HFF.out]; simp)
                clear hl3
                go_wp2
                go_roundw
                case rel => exact ⟨j + 1, by omega, by go_num, Lib.hid (by rw [HA2N.out, HF2N.out, HAE.out, HFE.out, ← HLS.out]; exact HX.out.2), HX.out.1⟩
                case measure => simp [intOf]; omega
        · obtain rfl : j = l.length := by omega
          have g1 : ¬ (l.length : Int) < (l.length : Int) := by omega
          have HBE := HBJ.out
          rw [List.take_length, ← HCK2.out, cdP_set (by rw [HCL.out]; exact hlt)] at HBE
          have HBE2 := Lib.hid HBE
          have HBJW := Lib.hid hbj
          clear HBE HBJ
          go_wp2
          go_roundw
          case rel => exact ⟨t + 1, by omega, by go_num, HBE2, HBJW.out⟩
          case measure => simp [intOf]; omega
    · obtain rfl : t = R.length := by omega
      have h1 : ¬ (R.length : Int) < (R.length : Int) := by omega
      have HBK2 : Hid (Blk wr w.heap.size 50 (cdRow C)) := Lib.hid (by have := HBK.out; rwa [← HCL.out, cdP_all] at this)
      go_wp2
      go_ret
      exact ⟨w.heap.size, rfl, HBK2.out, hb⟩
end Go.Proofs.Ytjohdkcgodaeiaa
