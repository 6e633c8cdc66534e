/- Show of layer 7 (ptext). -/
import Derived.Test.YtipapemcedkinaaW2
import Derived.Test.YtipapemcedkinaaP6
namespace Go.Proofs.Ytipapemcedkinaa
open Go.RowKit Go.PlainAid

/-- What Show answers. -/
def shwR (t : Ex) : List Int × Int := if chkE t = 0 then (txt t, 0) else ([], chkE t)
def ShP (R : List Int × Int) (w : World) (e : Ending) (w' : World) : Prop := e = .returned (.tuple #[.string (strOfNums R.1), .int .i64 R.2]) ∧ Below w.heap.size w w'
theorem bytes_of (L : List Int) : Lib.byteCells (strOfNums L).data.toList = sC L := rfl
theorem str_back (L : List Int) : (⟨(strOfNums L).data.toList.toArray⟩ : ByteArray) = strOfNums L := rfl
set_option maxRecDepth 100000 in
set_option maxHeartbeats 4000000 in
theorem p_Show (t : Ex) (A : Option Addr) (c : Nat) (w : World) (hs : t.sz ≤ 100000000) (hR : Rep w.heap.size w A t) : Calls Try.prog 12 #[exV t A c] w (ShP (shwR t) w) := by
  obtain ⟨W0, hW0⟩ : ∃ W, w.alloc (.cells (exC t A c) 25) = W := ⟨_, rfl⟩
  have hb0 : Below w.heap.size w W0 := by rw [← hW0]; exact balw _ _
  have hbx : Blk W0 w.heap.size 25 (exC t A c) := by rw [← hW0]; exact Blk.new _ _ _
  have hW1 : w.alloc (.cells #[.int .i64 t.op, .int .i64 t.vr, .slice A t.ks.length c] 25) = W0 := hW0
  have HB0 := Lib.hid hb0
  have HBX := Lib.hid hbx
  have HR0 := Lib.hid (hR.step hb0)
  have HC := Lib.hid (pr_Check t A c W0 hs HR0.out)
  obtain ⟨y0, y1, y2, y3, _, _, _⟩ := box_cells hbx
  by_cases hc : chkE t = 0
  · have HX : Hid (shwR t = (txt t, 0)) := Lib.hid (by unfold shwR; rw [if_pos hc])
    have hz := chkE_sz hc
    have hsh := chkE_shp hc
    have hlen := txt_len t hsh
    rw [hc] at HC
    have HWR : Hid (∀ w3, Below W0.heap.size W0 w3 → Calls Try.prog 19 #[.pointer (some ⟨w3.heap.size, 0, none⟩), exV t A c] (w3.alloc (.cells #[.pointer none, .slice none 0 0] 53)) (WrP w3.heap.size w3.heap.size ([] ++ txt t) (w3.alloc (.cells #[.pointer none, .slice none 0 0] 53)) (.tuple #[]))) := Lib.hid (fun w3 h3 =>
      p_write w3.heap.size w3.heap.size t.sz t (Nat.le_refl _) [] A c _ hsh (by simp; omega) (Bd.new w3 w3.heap.size (Nat.le_refl _)) (by simp) ((HR0.out.step h3).under (balw _ _)))
    have hl2 : (txt t).length ≤ 65536 := by omega
    clear hW0 hb0 hbx hc hz hsh hlen hs hR
    generalize txt t = T at *
    go_enter Try.func12, Try.ntmps12
    go_upto_region 5 with (go_at_call 16; (refine HC.out.mono ?_); rintro e w3 ⟨rfl, hb3⟩; have HB3 := Lib.hid hb3; clear hb3)
    have hx4 : Blk (w3.alloc (.cells #[.pointer none, .slice none 0 0] 53)) w.heap.size 25 (exC t A c) := (HBX.out.below HB3.out HBX.out.lt).alloc _
    clear y0 y1 y2 y3
    obtain ⟨y0, y1, y2, y3, _, _, _⟩ := box_cells hx4
    have g1 : ¬ (65536 : Int) < (T.length : Int) := by omega
    go_wp2_with (first
      | (go_at_call 21; (refine (sh_Builder_String_any w3.heap.size w3.heap.size (strOfNums T).data.toList _ (by rw [bytes_of]; exact HD.out) HZ.out).mono ?_); rintro e w6 ⟨rfl, hb6⟩)
      | (go_at_call 20; (refine HLN.out.mono ?_); rintro e w5 ⟨rfl, hq⟩; have hq := hq.symm; subst hq)
      | (go_at_call 19; (refine (HWR.out _ HB3.out).mono ?_); rintro e w4 ⟨rfl, h1, h2, h3, h4⟩; have HD : Hid (Bd w3.heap.size w3.heap.size (sC T) w4) := Lib.hid h1; have HLN := Lib.hid (b_Len _ _ _ _ h1); have HB4 := Lib.hid h2; have HZ : Hid (w3.heap.size ≤ w4.heap.size) := Lib.hid (by simp at h4; omega); rw [show ([] ++ T) = T from rfl, sC_len] at HLN; clear h1 h2 h3 h4))
    go_ret2
    rw [HX.out]
    refine ⟨rfl, ?_⟩
    exact HB0.out.trans ((HB3.out.trans ((((balw w3 _).trans HB4.out).trans hb6).mono HB3.out.size)).mono HB0.out.size)
  · have hckb : (chkE t != 0) = true := by simp [hc]
    have HX : Hid (shwR t = ([], chkE t)) := Lib.hid (by unfold shwR; rw [if_neg hc])
    clear hW0 hb0 hbx hc hs hR
    generalize chkE t = ck at *
    go_enter Try.func12, Try.ntmps12
    go_wp2_with (go_at_call 16; (refine HC.out.mono ?_); rintro e w3 ⟨rfl, hb3⟩)
    go_ret2
    rw [HX.out]
    exact ⟨rfl, HB0.out.trans (hb3.mono HB0.out.size)⟩
end Go.Proofs.Ytipapemcedkinaa
