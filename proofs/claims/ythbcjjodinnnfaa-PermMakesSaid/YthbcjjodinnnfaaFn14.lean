/- Contract of Move of layer 5 (perm) in range, over the translation. -/
import Derived.Test.YthbcjjodinnnfaaFn13
import Derived.StillTailTactics
import Derived.IntWalk
namespace Go.Proofs.Ythbcjjodinnnfaa
open Go.RowKit

theorem li_splice {L cs : List Int} {off : Nat} (h : off + cs.length ≤ L.length) (j : Nat) : li (splice L off cs) j = if j < off then li L j else if j < off + cs.length then li cs (j - off) else li L j := by
  unfold li splice
  simp only [List.getD, List.getElem?_append, List.getElem?_drop, List.length_take, List.getElem?_take]
  have e : min off L.length = off := by omega
  rw [e]
  by_cases a : j < off
  · simp [a]
  · by_cases b : j < off + cs.length
    · rw [if_neg a, if_pos (by omega), if_neg a, if_pos b]
    · rw [if_neg a, if_neg (by omega), if_neg a, if_neg b]
      congr 2; omega
theorem splice_map (L cs : List Int) (off : Nat) : splice (L.map (Value.int .i64)) off (cs.map (Value.int .i64)) = (splice L off cs).map (Value.int .i64) := by
  unfold splice; simp [List.map_take, List.map_drop]
theorem li_part {l : List Int} {a n j : Nat} (h : j < n) : li ((l.drop a).take n) j = li l (a + j) := by
  unfold li; simp [List.getD, h]
theorem li_get {l : List Int} {k : Nat} (h : k < l.length) : li l k = l[k] := by unfold li; simp [List.getD, List.getElem?_eq_getElem h]
theorem add_off (b off j : Nat) : (⟨b, off, none⟩ : Addr).add j = ⟨b, off + j, none⟩ := by unfold Addr.add; split <;> simp_all
theorem below_drew1 {B : Nat} {w w1 : World} (h : Below B w w1) : Below B w w1.drew := h.drew
theorem up_of {l : List Int} {f t : Nat} (hf : f < t) (ht : t < l.length) : (splice l f ((l.drop (f + 1)).take (t - f))).set t (li l f) = downL (upL l f (t - f)) f (f - t) := by
  have hc : ((l.drop (f + 1)).take (t - f)).length = t - f := by simp; omega
  have hs : (splice l f ((l.drop (f + 1)).take (t - f))).length = l.length := length_splice _ _ _ (by omega)
  rw [show f - t = 0 by omega]
  show _ = upL l f (t - f)
  apply li_ext
  · rw [List.length_set, hs, upL_len]
  · intro j hj
    rw [li_set (by omega), li_splice (by omega), li_up _ _ _ (by omega), hc]
    by_cases a : t = j
    · rw [if_pos a, if_neg (by omega), if_pos (by omega)]
    · rw [if_neg a]
      by_cases b : j < f
      · rw [if_pos b, if_neg (by omega), if_neg (by omega)]
      · rw [if_neg b]
        by_cases c : j < f + (t - f)
        · rw [if_pos c, if_pos ⟨by omega, c⟩, li_part (by omega)]; congr 1; omega
        · rw [if_neg c, if_neg (by omega), if_neg (by omega)]
theorem down_of {l : List Int} {f t : Nat} (hf : t ≤ f) (ht : f < l.length) : (splice l (t + 1) ((l.drop t).take (f - t))).set t (li l f) = downL (upL l f (t - f)) f (f - t) := by
  have hc : ((l.drop t).take (f - t)).length = f - t := by simp; omega
  have hs : (splice l (t + 1) ((l.drop t).take (f - t))).length = l.length := length_splice _ _ _ (by omega)
  rw [show t - f = 0 by omega]
  show _ = downL l f (f - t)
  apply li_ext
  · rw [List.length_set, hs, downL_len]
  · intro j hj
    rw [li_set (by omega), li_splice (by omega), li_down _ _ _ (by omega) (by omega), hc]
    by_cases a : t = j
    · rw [if_pos a, if_neg (by omega), if_pos (by omega)]
    · rw [if_neg a]
      by_cases b : j < t + 1
      · rw [if_pos b, if_neg (by omega), if_neg (by omega)]
      · rw [if_neg b]
        by_cases c : j < t + 1 + (f - t)
        · rw [if_pos c, if_pos ⟨by omega, by omega⟩, li_part (by omega)]; congr 1; omega
        · rw [if_neg c, if_neg (by omega), if_neg (by omega)]

set_option maxHeartbeats 1000000 in
theorem perm_Move_up (A : Option Addr) (ca : Nat) (l : List Int) (f t : Nat) (w : World) (h : RI w w.heap.size A l) (hl : l.length ≤ 1000000000000) (hf : f < t) (ht : t < l.length) :
    Calls Try.prog 17 #[.slice A l.length ca, .int .i64 (f : Int), .int .i64 (t : Int)] w fun r w' => ∃ g, r = .returned (.slice (some ⟨g, 0, none⟩) l.length l.length) ∧ Blk w' g 3 (intRow (downL (upL l f (t - f)) f (f - t))) ∧ w.heap.size ≤ g ∧ Below w.heap.size w w' := by
  have H := Lib.hid h
  clear h
  have e1 : ((f : Int) < (t : Int)) := by omega
  have e2 : ((t : Int) < (l.length : Int)) := by omega
  have e3 : ((f : Int) < (l.length : Int)) := by omega
  go_enter Try.func17, Try.ntmps17
  go_wp2_with (first | (go_at_call 25; refine (perm_clone _ _ _ _ H.out (by omega)).mono ?_; rintro e w1 ⟨g, rfl, B1, hg, hb1⟩; have hce := B1.cell f; rw [intRow_at (show f < l.length by omega)] at hce; have HB := Lib.hid B1; clear B1))
  clear hce
  have z1 : IntKind.i64.wrap ((f : Int) + 1) = (f : Int) + 1 := IntWalk.i64_in _ (by omega)
  have z2 : (0 : Int) ≤ (f : Int) + 1 := by omega
  have z3 : (f : Int) + 1 ≤ (l.length : Int) := by omega
  have z4 : ((f : Int) + 1).toNat = f + 1 := by omega
  have z5 : ¬ l.length = f := by omega
  have z6 : ¬ l.length = f + 1 := by omega
  have z7 : f ≤ t := by omega
  have z8 : t ≤ l.length := by omega
  have z9 : f + 1 ≤ l.length := by omega
  go_still_tail 8, (by kernel_rfl)
  change wpList _ _ _ _ _ w1.drew
  clear z1 z2 z3 z4 z5 z6
  have hlen : ((l.drop (f + 1)).take (t - f)).length = t - f := by simp; omega
  have HL := Lib.hid hlen
  clear hlen
  with_reducible refine wpList_copy_splice rfl (.tmp 40) (.tmp 44) 22 22 rfl 3 Try.underlying22 (by kernel_rfl) (some ⟨g, f, none⟩) (some ⟨g, f + 1, none⟩) (t - f) (l.length - f) (l.length - (f + 1)) (l.length - (f + 1)) rfl rfl g f (l.map (Value.int .i64)) 3 ?hg (((l.drop (f + 1)).take (t - f)).map (Value.int .i64)) ?hn ?hpos ?hfit ?h1 w.heap.size w ?hb hg ?_
  case hg => exact HB.out
  case hn => rw [List.length_map, HL.out]; show _ = min _ _; omega
  case hpos =>
    intro _
    refine ⟨rfl, _, rfl, fun j v hj => ?_⟩
    have hjl : j < t - f := by
      rcases Nat.lt_or_ge j (t - f) with q | q
      · exact q
      · rw [List.getElem?_eq_none (by rw [List.length_map, HL.out]; exact q)] at hj; cases hj
    have hv : v = .int .i64 (li l (f + 1 + j)) := by
      rw [List.getElem?_map, List.getElem?_eq_getElem (by rw [HL.out]; exact hjl)] at hj
      have := li_part (l := l) (a := f + 1) hjl
      rw [li_get (by rw [HL.out]; exact hjl)] at this
      rw [← this]
      simpa using hj.symm
    rw [add_off, hv]
    exact (HB.out.cell _).trans (intRow_at (by omega))
  case hfit => rw [List.length_map, List.length_map, HL.out]; omega
  case h1 => intro v hv; rw [List.mem_map] at hv; obtain ⟨_, _, rfl⟩ := hv; rfl
  case hb => exact below_drew1 hb1
  intro w2 hsp hb2
  have HB2 : Hid (Blk w2 g 3 (intRow (splice l f ((l.drop (f + 1)).take (t - f))))) := by
    have := hsp.out
    rw [splice_map] at this
    exact this
  have HL2 : Hid ((splice l f ((l.drop (f + 1)).take (t - f))).length = l.length) := length_splice _ _ _ (by rw [HL.out]; omega)
  clear hsp
  have hfz := HB2.out.frozen t
  have hce := (HB2.out.cell t).trans (intRow_at (by rw [HL2.out]; omega))
  have HB3 : Hid (Blk (w2.setCell ⟨g, t, none⟩ (.int .i64 (li l f))) g 3 (intRow (downL (upL l f (t - f)) f (f - t)))) := by
    have := HB2.out.set_ t (.int .i64 (li l f))
    rw [intRow_set, up_of hf ht] at this
    exact this
  have HBW : Hid (Below w.heap.size w (w2.setCell ⟨g, t, none⟩ (.int .i64 (li l f)))) := hb2.setCell (p := ⟨g, t, none⟩) hg _
  go_wp2
  go_ret
  exact ⟨_, rfl, HB3.out, hg, HBW.out⟩
set_option maxHeartbeats 1000000 in
theorem perm_Move_down (A : Option Addr) (ca : Nat) (l : List Int) (f t : Nat) (w : World) (h : RI w w.heap.size A l) (hl : l.length ≤ 1000000000000) (hf : t < f) (ht : f < l.length) :
    Calls Try.prog 17 #[.slice A l.length ca, .int .i64 (f : Int), .int .i64 (t : Int)] w fun r w' => ∃ g, r = .returned (.slice (some ⟨g, 0, none⟩) l.length l.length) ∧ Blk w' g 3 (intRow (downL (upL l f (t - f)) f (f - t))) ∧ w.heap.size ≤ g ∧ Below w.heap.size w w' := by
  have H := Lib.hid h
  clear h
  have e1 : ((t : Int) ≤ (f : Int)) := by omega
  have e2 : ((t : Int) < (l.length : Int)) := by omega
  have e3 : ((f : Int) < (l.length : Int)) := by omega
  go_enter Try.func17, Try.ntmps17
  go_wp2_with (first | (go_at_call 25; refine (perm_clone _ _ _ _ H.out (by omega)).mono ?_; rintro e w1 ⟨g, rfl, B1, hg, hb1⟩; have hce := B1.cell f; rw [intRow_at (show f < l.length by omega)] at hce; have HB := Lib.hid B1; clear B1))
  clear hce
  have z1 : IntKind.i64.wrap ((f : Int) + 1) = (f : Int) + 1 := IntWalk.i64_in _ (by omega)
  have y1 : IntKind.i64.wrap ((t : Int) + 1) = (t : Int) + 1 := IntWalk.i64_in _ (by omega)
  have z2 : (0 : Int) ≤ (f : Int) + 1 := by omega
  have y2 : (0 : Int) ≤ (t : Int) + 1 := by omega
  have z4 : ((f : Int) + 1).toNat = f + 1 := by omega
  have y4 : ((t : Int) + 1).toNat = t + 1 := by omega
  have z5 : ¬ l.length = t := by omega
  have z6 : ¬ l.length = t + 1 := by omega
  have z7 : t ≤ f := by omega
  have x1 : (f : Int) + 1 ≤ (l.length : Int) := by omega
  have x2 : (t : Int) + 1 ≤ (l.length : Int) := by omega
  have z8 : f + 1 ≤ l.length := by omega
  have z9 : t ≤ l.length := by omega
  go_still_tail 9, (by kernel_rfl)
  change wpList _ _ _ _ _ w1.drew
  clear z1 y1 z2 y2 z4 y4 z5 z6 z7
  have hlen : ((l.drop t).take (f - t)).length = f - t := by simp; omega
  have HL := Lib.hid hlen
  clear hlen
  with_reducible refine wpList_copy_splice rfl (.tmp 51) (.tmp 54) 22 22 rfl 3 Try.underlying22 (by kernel_rfl) (some ⟨g, t + 1, none⟩) (some ⟨g, t, none⟩) (f - t) (l.length - (t + 1)) (l.length - t) (l.length - t) rfl rfl g (t + 1) (l.map (Value.int .i64)) 3 ?hg (((l.drop t).take (f - t)).map (Value.int .i64)) ?hn ?hpos ?hfit ?h1 w.heap.size w ?hb hg ?_
  case hg => exact HB.out
  case hn => rw [List.length_map, HL.out]; show _ = min _ _; omega
  case hpos =>
    intro _
    refine ⟨rfl, _, rfl, fun j v hj => ?_⟩
    have hjl : j < f - t := by
      rcases Nat.lt_or_ge j (f - t) with q | q
      · exact q
      · rw [List.getElem?_eq_none (by rw [List.length_map, HL.out]; exact q)] at hj; cases hj
    have hv : v = .int .i64 (li l (t + j)) := by
      rw [List.getElem?_map, List.getElem?_eq_getElem (by rw [HL.out]; exact hjl)] at hj
      have := li_part (l := l) (a := t) hjl
      rw [li_get (by rw [HL.out]; exact hjl)] at this
      rw [← this]
      simpa using hj.symm
    rw [add_off, hv]
    exact (HB.out.cell _).trans (intRow_at (by omega))
  case hfit => rw [List.length_map, List.length_map, HL.out]; omega
  case h1 => intro v hv; rw [List.mem_map] at hv; obtain ⟨_, _, rfl⟩ := hv; rfl
  case hb => exact below_drew1 hb1
  intro w2 hsp hb2
  have HB2 : Hid (Blk w2 g 3 (intRow (splice l (t + 1) ((l.drop t).take (f - t))))) := by
    have := hsp.out
    rw [splice_map] at this
    exact this
  have HL2 : Hid ((splice l (t + 1) ((l.drop t).take (f - t))).length = l.length) := length_splice _ _ _ (by rw [HL.out]; omega)
  clear hsp
  have hfz := HB2.out.frozen t
  have hce := (HB2.out.cell t).trans (intRow_at (by rw [HL2.out]; omega))
  have HB3 : Hid (Blk (w2.setCell ⟨g, t, none⟩ (.int .i64 (li l f))) g 3 (intRow (downL (upL l f (t - f)) f (f - t)))) := by
    have := HB2.out.set_ t (.int .i64 (li l f))
    rw [intRow_set, down_of (by omega) ht] at this
    exact this
  have HBW : Hid (Below w.heap.size w (w2.setCell ⟨g, t, none⟩ (.int .i64 (li l f)))) := hb2.setCell (p := ⟨g, t, none⟩) hg _
  go_wp2
  go_ret
  exact ⟨_, rfl, HB3.out, hg, HBW.out⟩
set_option maxHeartbeats 1000000 in
theorem perm_Move_eq (A : Option Addr) (ca : Nat) (l : List Int) (t : Nat) (w : World) (h : RI w w.heap.size A l) (hl : l.length ≤ 1000000000000) (ht : t < l.length) :
    Calls Try.prog 17 #[.slice A l.length ca, .int .i64 (t : Int), .int .i64 (t : Int)] w fun r w' => ∃ g, r = .returned (.slice (some ⟨g, 0, none⟩) l.length l.length) ∧ Blk w' g 3 (intRow l) ∧ w.heap.size ≤ g ∧ Below w.heap.size w w' := by
  have H := Lib.hid h
  clear h
  have e2 : ((t : Int) < (l.length : Int)) := by omega
  go_enter Try.func17, Try.ntmps17
  go_wp2_with (first | (go_at_call 25; refine (perm_clone _ _ _ _ H.out (by omega)).mono ?_; rintro e w1 ⟨g, rfl, B1, hg, hb1⟩; have hce := B1.cell t; rw [intRow_at (show t < l.length by omega)] at hce; have HB := Lib.hid B1; clear B1))
  clear hce
  have z1 : IntKind.i64.wrap ((t : Int) + 1) = (t : Int) + 1 := IntWalk.i64_in _ (by omega)
  have z2 : (0 : Int) ≤ (t : Int) + 1 := by omega
  have z4 : ((t : Int) + 1).toNat = t + 1 := by omega
  have z5 : ¬ l.length = t := by omega
  have x2 : (t : Int) + 1 ≤ (l.length : Int) := by omega
  have z8 : t + 1 ≤ l.length := by omega
  have z9 : t ≤ l.length := by omega
  go_still_tail 9, (by kernel_rfl)
  change wpList _ _ _ _ _ w1.drew
  clear z1 z2 z4 z5
  with_reducible refine wpList_copy_nothing rfl (.tmp 51) (.tmp 54) 22 22 rfl 3 Try.underlying22 (by kernel_rfl) _ _ _ _ _ _ rfl rfl ?hn ?_
  case hn => show min _ _ = 0; omega
  have hfz : w1.drew.frozen? ⟨g, t, none⟩ = false := HB.out.frozen t
  have hce : w1.drew.cell? ⟨g, t, none⟩ = some (.int .i64 (li l t)) := (HB.out.cell t).trans (intRow_at ht)
  have HB3 : Hid (Blk (w1.drew.setCell ⟨g, t, none⟩ (.int .i64 (li l t))) g 3 (intRow l)) := by
    have h0 : Blk w1.drew g 3 (intRow l) := HB.out
    have := h0.set_ t (.int .i64 (li l t))
    have e : l.set t (li l t) = l := by rw [li_get ht, List.set_getElem_self]
    rw [intRow_set, e] at this
    exact this
  have HBW : Hid (Below w.heap.size w (w1.drew.setCell ⟨g, t, none⟩ (.int .i64 (li l t)))) := (below_drew1 hb1).setCell (p := ⟨g, t, none⟩) hg _
  generalize w1.drew = w2 at hfz hce HB3 HBW ⊢
  go_wp2
  all_goals
    go_ret
    exact ⟨_, rfl, HB3.out, hg, HBW.out⟩

theorem perm_Move (A : Option Addr) (ca : Nat) (l : List Int) (f t : Int) (w : World) (h : RI w w.heap.size A l) (hl : l.length ≤ 1000000000000) :
    Calls Try.prog 17 #[.slice A l.length ca, .int .i64 f, .int .i64 t] w fun r w' => ∃ g, r = .returned (.slice (some ⟨g, 0, none⟩) l.length l.length) ∧ Blk w' g 3 (intRow (moveF l f t)) ∧ w.heap.size ≤ g ∧ Below w.heap.size w w' := by
  by_cases hi : (0 ≤ f ∧ f < l.length) ∧ (0 ≤ t ∧ t < l.length)
  · obtain ⟨⟨h1, h2⟩, h3, h4⟩ := hi
    obtain ⟨f', rfl⟩ := Int.eq_ofNat_of_zero_le h1
    obtain ⟨t', rfl⟩ := Int.eq_ofNat_of_zero_le h3
    rw [moveF_in (by omega) (by omega)]
    rcases Nat.lt_trichotomy f' t' with q | q | q
    · exact perm_Move_up A ca l f' t' w h hl q (by omega)
    · subst q
      have e : downL (upL l f' (f' - f')) f' (f' - f') = l := by rw [show f' - f' = 0 by omega]; rfl
      rw [e]
      exact perm_Move_eq A ca l f' w h hl (by omega)
    · exact perm_Move_down A ca l f' t' w h hl q (by omega)
  · rw [moveF_out hi]
    exact perm_Move_out A ca l f t w h hl hi
end Go.Proofs.Ythbcjjodinnnfaa
