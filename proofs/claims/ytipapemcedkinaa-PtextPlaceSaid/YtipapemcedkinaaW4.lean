/- The specification's text and Show; layer 7 (ptext). -/
import Derived.Test.YtipapemcedkinaaW3
import Derived.Test.YtipapemcedkinaaPd
namespace Go.Proofs.Ytipapemcedkinaa
open Go.RowKit Go.PlainAid

theorem add_run {a b c : ByteArray} {L M : List Int} (ha : a = strOfNums L) (hb : b = strOfNums M) (hc : c = strOfNums (L ++ M)) (h : L.length + M.length ≤ 1000000000) (W : World) : (Op.stringOp .add a b).run Try.prog W = .ok (.string c) W := by
  subst ha; subst hb; subst hc
  rw [run_string_add_sum W _ _ (by rw [strOfNums_size, strOfNums_size]; omega), str_app]
theorem sig_cut {m : Nat} (hm : m < 7) : (⟨#[33, 38, 124, 94, 62, 61, 63]⟩ : ByteArray).extract m (m + 1) = strOfNums [sgn (4 + (m : Int))] := by
  have : m = 0 ∨ m = 1 ∨ m = 2 ∨ m = 3 ∨ m = 4 ∨ m = 5 ∨ m = 6 := by omega
  rcases this with rfl | rfl | rfl | rfl | rfl | rfl | rfl <;> rfl
def TxP (L : List Int) (w : World) (e : Ending) (w' : World) : Prop := e = .returned (.string (strOfNums L)) ∧ Below w.heap.size w w'
set_option maxRecDepth 100000 in
set_option maxHeartbeats 2000000 in
theorem r_text_leaf (t : Ex) (A : Option Addr) (c : Nat) (w : World) (hs : shp t) (ho : t.op = 1 ∨ t.op = 2 ∨ t.op = 3) :
    Calls Try.prog 22 #[exV t A c] w (TxP (txt t) w) := by
  have HX := Lib.hid (txt_eq t)
  have hv := ((shp_eq t).1 hs).1.2.1
  obtain ⟨W0, hW0⟩ : ∃ W, w.alloc (.cells (exC t A c) 25) = W := ⟨_, rfl⟩
  have hb0 : Below w.heap.size w W0 := by rw [← hW0]; exact balw _ _
  have hbx : Blk W0 w.heap.size 25 (exC t A c) := by rw [← hW0]; exact Blk.new _ _ _
  have HB0 := Lib.hid hb0
  have hW1 : w.alloc (.cells #[.int .i64 t.op, .int .i64 t.vr, .slice A t.ks.length c] 25) = W0 := hW0
  obtain ⟨y0, y1, y2, y3, _, _, _⟩ := box_cells hbx
  rcases ho with ho | ho | ho
  · have e1 : (t.op == 1) = true := by simp [ho]
    have HT : Hid (txt t = [116, 114, 117, 101]) := Lib.hid (by rw [HX.out, if_pos ho])
    clear hW0 hb0 hbx ho hv hs
    go_enter Try.func22, Try.ntmps22
    go_wp2
    go_ret
    rw [HT.out]
    exact ⟨rfl, HB0.out⟩
  · have e1 : (t.op == 1) = false := by simp [ho]
    have e2 : (t.op == 2) = true := by simp [ho]
    have HT : Hid (txt t = [102, 97, 108, 115, 101]) := Lib.hid (by rw [HX.out, if_neg (by omega), if_pos ho])
    clear hW0 hb0 hbx ho hv hs
    go_enter Try.func22, Try.ntmps22
    go_wp2
    go_ret
    rw [HT.out]
    exact ⟨rfl, HB0.out⟩
  · have hvm : t.vr ≤ 63 := by have := hv.2; unfold varM at this; rw [if_pos ho] at this; exact this
    have hv0 := hv.1
    have e1 : (t.op == 1) = false := by simp [ho]
    have e2 : (t.op == 2) = false := by simp [ho]
    have e3 : (t.op == 3) = true := by simp [ho]
    have hlen := text_short hv0 hvm
    have HN := Lib.hid (ref_Text t.vr W0 (by omega) (by omega))
    have HT : Hid (txt t = 118 :: textF t.vr) := Lib.hid (by rw [HX.out, if_neg (by omega), if_neg (by omega), if_pos ho])
    have HCT := fun W : World => add_run (a := ⟨#[118]⟩) (b := strOfNums (textF t.vr)) (c := strOfNums (118 :: textF t.vr)) (L := [118]) (M := textF t.vr) rfl rfl rfl (by simp; omega) W
    clear hW0 hb0 hbx ho hv hs hlen
    generalize textF t.vr = X at *
    go_enter Try.func22, Try.ntmps22
    go_wp2_with (go_at_call 37; (refine HN.out.mono ?_); rintro e w2 ⟨rfl, hb2⟩)
    go_ret
    rw [HT.out]
    exact ⟨rfl, HB0.out.trans (hb2.mono HB0.out.size)⟩
set_option maxRecDepth 100000 in
set_option maxHeartbeats 8000000 in
theorem r_text : ∀ n (t : Ex), t.sz ≤ n → ∀ (A : Option Addr) (c : Nat) (w : World), shp t → t.sz ≤ 4096 → Rep w.heap.size w A t →
    Calls Try.prog 22 #[exV t A c] w (TxP (txt t) w) := by
  intro n
  induction n with
  | zero => intro t h; have := sz_eq t; omega
  | succ n ih =>
    intro t ht A c w hs hL hR
    have hn := (shp_eq t).1 hs
    by_cases ho : t.op = 1 ∨ t.op = 2 ∨ t.op = 3
    · exact r_text_leaf t A c w hs ho
    · obtain ⟨m, hm⟩ : ∃ m : Nat, t.op = 4 + (m : Int) := ⟨(t.op - 4).toNat, by have := hn.1.1.1; omega⟩
      have hm7 : m < 7 := by have := hn.1.1.2; omega
      have HX := Lib.hid (txt_eq t)
      rw [if_neg (by omega), if_neg (by omega), if_neg (by omega)] at HX
      have hsc := sig_cut hm7
      rw [← hm] at hsc
      have HSG : Hid (∀ w, Calls Try.prog 32 #[] w fun e w' => e = .returned (.string ⟨#[33, 38, 124, 94, 62, 61, 63]⟩) ∧ w' = w) := Lib.hid r_signs
      have hsg : (⟨#[33, 38, 124, 94, 62, 61, 63]⟩ : ByteArray).size = 7 := rfl
      generalize (⟨#[33, 38, 124, 94, 62, 61, 63]⟩ : ByteArray) = sg at *
      have k1 : (0 : Int) ≤ (m : Int) := by omega
      have k2 : (m : Int) ≤ (m : Int) + 1 := by omega
      have k3 : (m : Int) + 1 ≤ (sg.size : Int) := by omega
      have k4 : (m : Int) + 1 ≤ 7 := by omega
      obtain ⟨W0, hW0⟩ : ∃ W, w.alloc (.cells (exC t A c) 25) = W := ⟨_, rfl⟩
      have hb0 : Below w.heap.size w W0 := by rw [← hW0]; exact balw _ _
      have hbx : Blk W0 w.heap.size 25 (exC t A c) := by rw [← hW0]; exact Blk.new _ _ _
      have hW1 : w.alloc (.cells #[.int .i64 t.op, .int .i64 t.vr, .slice A t.ks.length c] 25) = W0 := hW0
      have HB0 := Lib.hid hb0
      have HBX := Lib.hid hbx
      obtain ⟨y0, y1, y2, y3, _, _, _⟩ := box_cells hbx
      have hk : t.ks.length ≤ 64 := by
        have h1 := hn.1.2.2.2
        have h2 : kidM t.op ≤ 64 := by unfold kidM; (repeat' split) <;> omega
        omega
      have hsz := sz_eq t
      have HIH : Hid (∀ i, i < t.ks.length → ∀ (A : Option Addr) (c : Nat) (w : World), Rep w.heap.size w A (kd t.ks i) → Calls Try.prog 22 #[exV (kd t.ks i) A c] w (TxP (txt (kd t.ks i)) w)) := Lib.hid (fun i hi A c w h3 => by
        have hz := kd_sz hi
        exact ih (kd t.ks i) (by omega) A c w (shpL_kd hn.2 hi) (by omega) h3)
      have HLEN : Hid (∀ i, i < t.ks.length → (40 :: sgn t.op :: txtL (t.ks.take i)).length ≤ 1000000 ∧ (txt (kd t.ks i)).length ≤ 1000000) := Lib.hid (fun i hi => by
        have h1 := szL_take2 hi
        have h2 := txtL_len (t.ks.take i) (shpL_take hn.2)
        have h3 := txt_len (kd t.ks i) (shpL_kd hn.2 hi)
        simp only [List.length_cons]
        omega)
      have HLN2 : Hid ((40 :: sgn t.op :: txtL t.ks).length ≤ 1000000) := Lib.hid (by
        have h2 := txtL_len t.ks hn.2
        simp only [List.length_cons]
        omega)
      have e1 : (t.op == 1) = false := by simp; omega
      have e2 : (t.op == 2) = false := by simp; omega
      have e3 : (t.op == 3) = false := by simp; omega
      have e4 : t.op - 4 = (m : Int) := by omega
      have e5 : ((m : Int) + 1).toNat = m + 1 := by omega
      have ew : IntKind.i64.wrap (m : Int) = (m : Int) := IntWalk.i64_in _ (by omega)
      have ew2 : IntKind.i64.wrap ((m : Int) + 1) = (m : Int) + 1 := IntWalk.i64_in _ (by omega)
      have HCT := fun W : World => add_run (a := ⟨#[40]⟩) (b := strOfNums [sgn t.op]) (c := strOfNums [40, sgn t.op]) (L := [40]) (M := [sgn t.op]) rfl rfl rfl (by simp) W
      have HR := Lib.hid hR
      have HM := Lib.hid hm
      clear hW0 hb0 hbx ho hn hs hR ih hsz ht hm
      go_enter Try.func22, Try.ntmps22
      go_upto_region 7 with fail
      go_quiet ((go_at_call 32; exact (HSG.out _).mono fun _ _ h => ⟨h.1, _, h.2⟩))
      go_wp2_with fail
      clear y0 y1 y2 e1 e2 e3 e4 e5 ew ew2 HCT hsc hsg HSG k1 k2 k3 k4
      go_loopw [3, 4] (fun s3 i wr => ∃ k : Nat, k ≤ t.ks.length ∧ i = .int .i64 (k : Int) ∧ s3 = .string (strOfNums (40 :: sgn t.op :: txtL (t.ks.take k))) ∧ Hid (Below W0.heap.size W0 wr)) (fun _ i _ => t.ks.length - (intOf i).toNat)
      case atStart => exact ⟨0, Nat.zero_le _, rfl, rfl, Lib.hid (below_drewN (Below.refl _ _) _)⟩
      case round =>
        obtain ⟨k, hkk, rfl, rfl, HB⟩ := hrel
        have hbxr := HBX.out.below HB.out HBX.out.lt
        have z2 := hbxr.cell 2
        clear y3 hbxr
        by_cases hlt : k < t.ks.length
        · have l1 : (k : Int) < (t.ks.length : Int) := by omega
          have l0 : (0 : Int) ≤ (k : Int) := by omega
          obtain ⟨g, f0, rfl, hg, hc⟩ := HR.out.out (by omega)
          obtain ⟨ka, kc, c0, c1, c2, hRk⟩ := hc k hlt
          have HBW := Lib.hid (HB0.out.trans (HB.out.mono HB0.out.size))
          have d0 := (HBW.out.cell (p := ⟨g, f0 + k * 3, none⟩) hg).trans c0
          have d1 := (HBW.out.cell (p := ⟨g, f0 + k * 3 + 1, none⟩) hg).trans c1
          have d2 := (HBW.out.cell (p := ⟨g, f0 + k * 3 + 2, none⟩) hg).trans c2
          have HI2 := Lib.hid (HIH.out k hlt ka kc wr (hRk.step HBW.out))
          have HST := Lib.hid (txtL_step hlt)
          obtain ⟨hl1, hl2⟩ := HLEN.out k hlt
          have s1 := fun W : World => add_run (a := strOfNums (40 :: sgn t.op :: txtL (t.ks.take k))) (b := ⟨#[32]⟩) (c := strOfNums ((40 :: sgn t.op :: txtL (t.ks.take k)) ++ [32])) (M := [32]) rfl rfl rfl (by simp at hl1 ⊢; omega) W
          have s2 := fun W : World => add_run (a := strOfNums ((40 :: sgn t.op :: txtL (t.ks.take k)) ++ [32])) (b := strOfNums (txt (kd t.ks k))) (c := strOfNums (40 :: sgn t.op :: txtL (t.ks.take (k + 1)))) (L := (40 :: sgn t.op :: txtL (t.ks.take k)) ++ [32]) (M := txt (kd t.ks k)) rfl rfl (by rw [HST.out]; simp) (by simp at hl1 ⊢; omega) W
          obtain ⟨S1, hS1⟩ : ∃ S, strOfNums (40 :: sgn t.op :: txtL (t.ks.take k)) = S := ⟨_, rfl⟩
          obtain ⟨S2, hS2⟩ : ∃ S, strOfNums ((40 :: sgn t.op :: txtL (t.ks.take k)) ++ [32]) = S := ⟨_, rfl⟩
          obtain ⟨S3, hS3⟩ : ∃ S, strOfNums (40 :: sgn t.op :: txtL (t.ks.take (k + 1))) = S := ⟨_, rfl⟩
          have HS3 := Lib.hid hS3
          obtain ⟨u, hu⟩ : ∃ u, kd t.ks k = u := ⟨_, rfl⟩
          unfold TxP at HI2
          rw [hu] at d0 d1 d2 HI2 s2
          obtain ⟨S4, hS4⟩ : ∃ S, strOfNums (txt u) = S := ⟨_, rfl⟩
          rw [hS2] at s1 s2
          rw [hS1] at s1 ⊢
          rw [hS3, hS4] at s2
          rw [hS4] at HI2
          clear hS1 hS2 hS3 hS4 hu c0 c1 c2 hRk hc hl1 hl2
          go_wp2_with (go_at_call 22; (refine HI2.out.mono ?_); rintro e w5 ⟨rfl, hb5⟩; have HB5 := Lib.hid (HB.out.trans (hb5.mono HB.out.size)); clear hb5)
          go_roundw
          case rel => exact ⟨k + 1, by omega, by go_num, by rw [HS3.out], HB5⟩
          case measure => simp [intOf]; omega
        · obtain rfl : k = t.ks.length := by omega
          have l1 : ¬ (t.ks.length : Int) < (t.ks.length : Int) := by omega
          rw [List.take_length]
          have s1 := fun W : World => add_run (a := strOfNums (40 :: sgn t.op :: txtL t.ks)) (b := ⟨#[41]⟩) (c := strOfNums ((40 :: sgn t.op :: txtL t.ks) ++ [41])) (M := [41]) rfl rfl rfl (by have := HLN2.out; simp at this ⊢; omega) W
          have HE : Hid (TxP (txt t) w (.returned (.string (strOfNums ((40 :: sgn t.op :: txtL t.ks) ++ [41])))) wr) := Lib.hid ⟨by rw [HX.out]; rfl, HB0.out.trans (HB.out.mono HB0.out.size)⟩
          obtain ⟨S1, hS1⟩ : ∃ S, strOfNums (40 :: sgn t.op :: txtL t.ks) = S := ⟨_, rfl⟩
          obtain ⟨S2, hS2⟩ : ∃ S, strOfNums ((40 :: sgn t.op :: txtL t.ks) ++ [41]) = S := ⟨_, rfl⟩
          rw [hS1, hS2] at s1
          rw [hS1]
          rw [hS2] at HE
          clear hS1 hS2
          go_wp2
          go_ret
          exact HE.out
set_option maxRecDepth 100000 in
set_option maxHeartbeats 4000000 in
theorem r_Show (t : Ex) (A : Option Addr) (c : Nat) (w : World) (hs : t.sz ≤ 100000000) (hR : Rep w.heap.size w A t) : Calls Try.prog 13 #[exV t A c] w (ShP (shwR t) w) := by
  obtain ⟨W0, hW0⟩ : ∃ W, w.alloc (.cells (exC t A c) 25) = W := ⟨_, rfl⟩
  have hb0 : Below w.heap.size w W0 := by rw [← hW0]; exact balw _ _
  have hbx : Blk W0 w.heap.size 25 (exC t A c) := by rw [← hW0]; exact Blk.new _ _ _
  have hW1 : w.alloc (.cells #[.int .i64 t.op, .int .i64 t.vr, .slice A t.ks.length c] 25) = W0 := hW0
  have HB0 := Lib.hid hb0
  have HBX := Lib.hid hbx
  have HR0 := Lib.hid (hR.step hb0)
  have HC := Lib.hid (rf_Check t A c W0 hs HR0.out)
  obtain ⟨y0, y1, y2, y3, _, _, _⟩ := box_cells hbx
  by_cases hc : chkE t = 0
  · have HX : Hid (shwR t = (txt t, 0)) := Lib.hid (by unfold shwR; rw [if_pos hc])
    have hz := chkE_sz hc
    have hsh := chkE_shp hc
    have hlen := txt_len t hsh
    rw [hc] at HC
    have HWR : Hid (∀ w3, Below W0.heap.size W0 w3 → Calls Try.prog 22 #[exV t A c] w3 (TxP (txt t) w3)) := Lib.hid (fun w3 h3 => r_text t.sz t (Nat.le_refl _) A c w3 hsh hz (HR0.out.step h3))
    have hl2 : (strOfNums (txt t)).size ≤ 65536 := by rw [strOfNums_size]; omega
    unfold TxP at HWR
    have HE : Hid (∀ w', Below w.heap.size w w' → ShP (shwR t) w (.returned (.tuple #[.string (strOfNums (txt t)), .int .i64 0])) w') := Lib.hid (fun w' h => ⟨by rw [HX.out], h⟩)
    clear hW0 hb0 hbx hc hz hsh hlen hs hR
    generalize strOfNums (txt t) = T at *
    have g1 : ¬ (65536 : Int) < (T.size : Int) := by omega
    go_enter Try.func13, Try.ntmps13
    go_upto_region 4 with (go_at_call 18; (refine HC.out.mono ?_); rintro e w3 ⟨rfl, hb3⟩; have HB3 := Lib.hid hb3; clear hb3)
    have hx4 := HBX.out.below HB3.out HBX.out.lt
    clear y0 y1 y2 y3
    obtain ⟨y0, y1, y2, y3, _, _, _⟩ := box_cells hx4
    go_wp2_with (go_at_call 22; (refine (HWR.out _ HB3.out).mono ?_); rintro e w4 ⟨rfl, hb4⟩)
    go_ret2
    exact HE.out _ (HB0.out.trans ((HB3.out.trans (hb4.mono HB3.out.size)).mono HB0.out.size))
  · have hckb : (chkE t != 0) = true := by simp [hc]
    have HX : Hid (shwR t = ([], chkE t)) := Lib.hid (by unfold shwR; rw [if_neg hc])
    clear hW0 hb0 hbx hc hs hR
    generalize chkE t = ck at *
    go_enter Try.func13, Try.ntmps13
    go_wp2_with (go_at_call 18; (refine HC.out.mono ?_); rintro e w3 ⟨rfl, hb3⟩)
    go_ret2
    rw [HX.out]
    exact ⟨rfl, HB0.out.trans (hb3.mono HB0.out.size)⟩
end Go.Proofs.Ytipapemcedkinaa
