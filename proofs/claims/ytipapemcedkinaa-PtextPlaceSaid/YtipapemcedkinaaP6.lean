/- The parser of layer 7 (ptext): expr, without parentheses. -/
import Derived.Test.YtipapemcedkinaaP5
import Derived.Laws.ResultCell
namespace Go.Proofs.Ytipapemcedkinaa
open Go.RowKit Go.PlainAid

/-- What expr leaves. -/
def XP (pb : Nat) (s : ByteArray) (w : World) : XR → Ending → World → Prop
  | .bad a, e, w' => e = faultAt a ∧ Frm (At pb) w w'
  | .ok t a, e, w' => ∃ A c, e = .returned (exV t A c) ∧ Frm (At pb) w w' ∧ Ps pb s a w' ∧ RepS (fun x => w.heap.size ≤ x ∧ x < w'.heap.size) w' A t
/-- The result's own box is written. -/
theorem put3 {w : World} {g : Nat} {a0 a1 a2 b0 b1 b2 : Value} (h : Blk w g 25 #[a0, a1, a2]) : Blk (((w.setCell ⟨g, 0, none⟩ b0).setCell ⟨g, 1, none⟩ b1).setCell ⟨g, 2, none⟩ b2) g 25 #[b0, b1, b2] :=
  ((h.set_ 0 _).set_ 1 _).set_ 2 _
theorem frm3 {pb : Nat} {w w1 : World} (h : Frm (At pb) w w1) {g : Nat} (hg : w.heap.size ≤ g) (b0 b1 b2 : Value) : Frm (At pb) w (((w1.setCell ⟨g, 0, none⟩ b0).setCell ⟨g, 1, none⟩ b1).setCell ⟨g, 2, none⟩ b2) := by
  have h1 : ∀ (w2 : World) (i : Nat) (v : Value), Frm (At pb) w w2 → Frm (At pb) w (w2.setCell ⟨g, i, none⟩ v) := fun w2 i v h => ⟨h.os, h.tape, h.output, by have := h.size; simpa using this, fun k hk hs => by
    have : g ≠ k := by omega
    simp only [World.setCell, Array.getElem?_modify, this, if_false]
    exact h.block k hk hs⟩
  exact h1 _ _ _ (h1 _ _ _ (h1 _ _ _ h))
theorem ps3 {pb g k : Nat} {s : ByteArray} {w : World} (h : Ps pb s k w) (hg : g ≠ pb) (b0 b1 b2 : Value) : Ps pb s k (((w.setCell ⟨g, 0, none⟩ b0).setCell ⟨g, 1, none⟩ b1).setCell ⟨g, 2, none⟩ b2) :=
  ((h.set_other hg 0 b0).set_other hg 1 b1).set_other hg 2 b2
/-- The result's box, made at the start. -/
structure Ent (pb : Nat) (s : ByteArray) (k : Nat) (w W : World) : Prop where
  fr : Frm (At pb) w W
  sz : W.heap.size = w.heap.size + 1
  ps : Ps pb s k W
  bx : Blk W w.heap.size 25 #[.int .i64 0, .int .i64 0, .slice none 0 0]
  lt : pb < w.heap.size
theorem Ent.mk' {pb : Nat} {s : ByteArray} {k : Nat} {w : World} (h : Ps pb s k w) : Ent pb s k w (w.alloc (.cells #[.int .i64 0, .int .i64 0, .slice none 0 0] 25)) :=
  ⟨(Frm.refl _ _).alloc _, by simp, Blk.alloc h _, Blk.new _ _ _, Blk.lt h⟩
/-- The end of a leaf. -/
theorem Ent.leaf {pb k a : Nat} {s : ByteArray} {w W W1 : World} (h : Ent pb s k w W) (hf : Frm (At pb) W W1) (hp : Ps pb s a W1) (o v : Int) :
    XP pb s w (.ok (.mk o v []) a) (.returned (.agg #[.int .i64 o, .int .i64 v, .slice none 0 0])) (((W1.setCell ⟨w.heap.size, 0, none⟩ (.int .i64 o)).setCell ⟨w.heap.size, 1, none⟩ (.int .i64 v)).setCell ⟨w.heap.size, 2, none⟩ (.slice none 0 0)) := by
  have hl := h.lt
  exact ⟨none, 0, rfl, frm3 (h.fr.trans hf) (Nat.le_refl _) _ _ _, ps3 hp (by omega) _ _ _, .mk _ _ (fun _ => none) (fun _ => 0) (fun q => absurd q (by simp [Ex.ks])) (fun i hi => absurd hi (by simp [Ex.ks]))⟩
theorem true_ints : intsOf ⟨#[116, 114, 117, 101]⟩ = [116, 114, 117, 101] := rfl
theorem false_ints : intsOf ⟨#[102, 97, 108, 115, 101]⟩ = [102, 97, 108, 115, 101] := rfl
theorem v_ints : intsOf ⟨#[118]⟩ = [118] := rfl
theorem open_ints' : intsOf ⟨#[40]⟩ = [40] := rfl
theorem close_ints : intsOf ⟨#[41]⟩ = [41] := rfl
theorem nz_of {wd : ByteArray} {L : List Int} (h : intsOf wd = L) (hL : ∀ c ∈ L, c ≠ 0) : ∀ i, i < wd.size → Go.PlainAid.bt wd i ≠ 0 := fun i hi => by
  rw [bt_ints wd i hi, h]
  have hl : i < L.length := by rw [← h, intsOf_len]; exact hi
  refine hL _ ?_
  simp [List.getD, List.getElem?_eq_getElem hl]
/-- need of a word, its bytes as a list. -/
theorem need_is {pb : Nat} {s wd : ByteArray} {L : List Int} {k : Nat} (hw : intsOf wd = L) (hL : ∀ c ∈ L, c ≠ 0) (hl : L.length ≤ 8) {w : World} (h : Ps pb s k w) (hk : k ≤ s.size) (hs : s.size ≤ 65536) :
    Calls Try.prog 24 #[.pointer (some ⟨pb, 0, none⟩), .string wd] w (NeedP pb s w (wordL s L k)) := by
  have h1 := p_need pb s wd k w h hk hs (by rw [← intsOf_len, hw]; exact hl) (nz_of hw hL)
  rwa [hw] at h1
theorem size25 : (Try.prog.info? 25).map (·.size) = some 3 := by kernel_rfl
theorem res_ex {fn : Func} {p : Tmp} (h : fn.results = #[.cell p 25]) (tmps : Array Value) (w : World) (g : Nat) (a b c : Value) (hp : tmps.getD p undef = .pointer (some ⟨g, 0, none⟩)) (hg : Blk w g 25 #[a, b, c]) :
    (results fn tmps).run Try.prog w = .ok (.agg #[a, b, c]) w := by
  exact results_cell_row (P := Try.prog) h tmps w g 25 #[a, b, c] (0, 0) _ hp hg Try.underlying25 rfl size25
theorem Ent.box {pb k : Nat} {s : ByteArray} {w W w2 : World} (h : Ent pb s k w W) (hf : Frm (At pb) W w2) : Blk w2 w.heap.size 25 #[.int .i64 0, .int .i64 0, .slice none 0 0] :=
  h.bx.frm hf (by have := h.lt; show ¬ _ = _; omega)
/-- The box of a result: its cells may be read and written. -/
theorem box_cells {w : World} {g : Nat} {a b c : Value} (h : Blk w g 25 #[a, b, c]) : g < w.heap.size ∧ w.cell? ⟨g, 0, none⟩ = some a ∧ w.cell? ⟨g, 1, none⟩ = some b ∧ w.cell? ⟨g, 2, none⟩ = some c ∧ w.frozen? ⟨g, 0, none⟩ = false ∧ w.frozen? ⟨g, 1, none⟩ = false ∧ w.frozen? ⟨g, 2, none⟩ = false :=
  ⟨h.lt, h.cell 0, h.cell 1, h.cell 2, h.frozen 0, h.frozen 1, h.frozen 2⟩
set_option maxRecDepth 100000 in
set_option maxHeartbeats 2000000 in
theorem p_true (pb : Nat) (s : ByteArray) (k : Nat) (w : World) (h : Ps pb s k w) (hk : k ≤ s.size) (hs : s.size ≤ 65536) (hc : Go.PlainAid.bt s k = 116) :
    Calls Try.prog 15 #[.pointer (some ⟨pb, 0, none⟩)] w (XP pb s w (ofWord (.mk 1 0 []) (wordL s [116, 114, 117, 101] k))) := by
  have he := Ent.mk' h
  have HE := Lib.hid he
  have HPK := Lib.hid (p_peek pb s k _ he.ps hk hs)
  rw [hc] at HPK
  have HND := Lib.hid (fun n => need_is true_ints (by simp) (by simp) (he.ps.drewN n) hk hs)
  have HFD := Lib.hid (fun n => Frm.drewN (Frm.refl (At pb) (w.alloc (.cells #[.int .i64 0, .int .i64 0, .slice none 0 0] 25))) n)
  generalize wordL s [116, 114, 117, 101] k = R at *
  obtain ⟨a, b⟩ := R
  clear he h hc
  cases b
  · go_enter Try.func15, Try.ntmps15
    go_wp2_with (first
      | (go_at_call 24; (refine (HND.out _).mono ?_); rintro e w2 ⟨hf, _, he⟩; obtain rfl := he rfl)
      | (go_at_call 23; (refine HPK.out.mono ?_); rintro e w1 ⟨rfl, m, rfl⟩))
    exact ⟨rfl, rfl, HE.out.fr.trans ((HFD.out _).trans hf)⟩
  · go_enter Try.func15, Try.ntmps15
    go_wp2_with (first
      | (go_at_call 24; (refine (HND.out _).mono ?_); rintro e w2 ⟨hf, he, _⟩; obtain ⟨rfl, hp⟩ := he rfl; have hf2 := (HFD.out _).trans hf; have hbx := HE.out.box hf2; obtain ⟨z0, x0, x1, x2, q0, q1, q2⟩ := box_cells hbx; have HBX := Lib.hid hbx; have HF := Lib.hid hf2; have HPS := Lib.hid hp; clear hf hf2 he hp hbx)
      | (go_at_call 23; (refine HPK.out.mono ?_); rintro e w1 ⟨rfl, m, rfl⟩))
    refine bodyPost_ret (res_ex rfl _ _ w.heap.size _ _ _ rfl (put3 HBX.out)) rfl ?_
    exact HE.out.leaf HF.out HPS.out 1 0
set_option maxRecDepth 100000 in
set_option maxHeartbeats 2000000 in
theorem p_false (pb : Nat) (s : ByteArray) (k : Nat) (w : World) (h : Ps pb s k w) (hk : k ≤ s.size) (hs : s.size ≤ 65536) (hc : Go.PlainAid.bt s k = 102) :
    Calls Try.prog 15 #[.pointer (some ⟨pb, 0, none⟩)] w (XP pb s w (ofWord (.mk 2 0 []) (wordL s [102, 97, 108, 115, 101] k))) := by
  have he := Ent.mk' h
  have HE := Lib.hid he
  have HPK := Lib.hid (p_peek pb s k _ he.ps hk hs)
  rw [hc] at HPK
  have HND := Lib.hid (fun n => need_is false_ints (by simp) (by simp) (he.ps.drewN n) hk hs)
  have HFD := Lib.hid (fun n => Frm.drewN (Frm.refl (At pb) (w.alloc (.cells #[.int .i64 0, .int .i64 0, .slice none 0 0] 25))) n)
  generalize wordL s [102, 97, 108, 115, 101] k = R at *
  obtain ⟨a, b⟩ := R
  clear he h hc
  cases b
  · go_enter Try.func15, Try.ntmps15
    go_wp2_with (first
      | (go_at_call 24; (refine (HND.out _).mono ?_); rintro e w2 ⟨hf, _, he⟩; obtain rfl := he rfl)
      | (go_at_call 23; (refine HPK.out.mono ?_); rintro e w1 ⟨rfl, m, rfl⟩))
    exact ⟨rfl, rfl, HE.out.fr.trans ((HFD.out _).trans hf)⟩
  · go_enter Try.func15, Try.ntmps15
    go_wp2_with (first
      | (go_at_call 24; (refine (HND.out _).mono ?_); rintro e w2 ⟨hf, he, _⟩; obtain ⟨rfl, hp⟩ := he rfl; have hf2 := (HFD.out _).trans hf; have hbx := HE.out.box hf2; obtain ⟨z0, x0, x1, x2, q0, q1, q2⟩ := box_cells hbx; have HBX := Lib.hid hbx; have HF := Lib.hid hf2; have HPS := Lib.hid hp; clear hf hf2 he hp hbx)
      | (go_at_call 23; (refine HPK.out.mono ?_); rintro e w1 ⟨rfl, m, rfl⟩))
    refine bodyPost_ret (res_ex rfl _ _ w.heap.size _ _ _ rfl (put3 HBX.out)) rfl ?_
    exact HE.out.leaf HF.out HPS.out 2 0
set_option maxRecDepth 100000 in
set_option maxHeartbeats 2000000 in
theorem p_var (pb : Nat) (s : ByteArray) (k : Nat) (w : World) (h : Ps pb s k w) (hk : k ≤ s.size) (hs : s.size ≤ 65536) (hc : Go.PlainAid.bt s k = 118) :
    Calls Try.prog 15 #[.pointer (some ⟨pb, 0, none⟩)] w (XP pb s w (ofNum (numR s (k + 1)))) := by
  have hl := at_lt hc (by omega)
  have he := Ent.mk' h
  have HE := Lib.hid he
  have HPK := Lib.hid (p_peek pb s k _ he.ps hk hs)
  rw [hc] at HPK
  have HND := Lib.hid (fun n => need_is v_ints (by simp) (by simp) (he.ps.drewN n) hk hs)
  have hw : wordL s [118] k = (k + 1, true) := by rw [wordL, if_pos hc]; rfl
  rw [hw] at HND
  have HNM := Lib.hid (fun w2 (h2 : Ps pb s (k + 1) w2) => p_number pb s (k + 1) w2 h2 hl hs)
  have HFD := Lib.hid (fun n => Frm.drewN (Frm.refl (At pb) (w.alloc (.cells #[.int .i64 0, .int .i64 0, .slice none 0 0] 25))) n)
  generalize numR s (k + 1) = R at *
  clear he h hc hw
  cases R with
  | bad a =>
    go_enter Try.func15, Try.ntmps15
    go_wp2_with (first
      | (go_at_call 25; (refine (HNM.out _ HP2.out).mono ?_); rintro e w3 ⟨rfl, hf3⟩)
      | (go_at_call 24; (refine (HND.out _).mono ?_); rintro e w2 ⟨hf, he, _⟩; obtain ⟨rfl, hp⟩ := he rfl; have HF2 := Lib.hid ((HFD.out _).trans hf); have HP2 := Lib.hid hp; clear hf he hp)
      | (go_at_call 23; (refine HPK.out.mono ?_); rintro e w1 ⟨rfl, m, rfl⟩))
    exact ⟨rfl, rfl, HE.out.fr.trans (HF2.out.trans hf3)⟩
  | ok n a =>
    go_enter Try.func15, Try.ntmps15
    go_wp2_with (first
      | (go_at_call 25; (refine (HNM.out _ HP2.out).mono ?_); rintro e w3 ⟨rfl, hf3, hp⟩; have hf4 := HF2.out.trans hf3; have hbx := HE.out.box hf4; obtain ⟨z0, x0, x1, x2, q0, q1, q2⟩ := box_cells hbx; have HBX := Lib.hid hbx; have HF := Lib.hid hf4; have HPS := Lib.hid hp; clear hf3 hf4 hp hbx)
      | (go_at_call 24; (refine (HND.out _).mono ?_); rintro e w2 ⟨hf, he, _⟩; obtain ⟨rfl, hp⟩ := he rfl; have HF2 := Lib.hid ((HFD.out _).trans hf); have HP2 := Lib.hid hp; clear hf he hp)
      | (go_at_call 23; (refine HPK.out.mono ?_); rintro e w1 ⟨rfl, m, rfl⟩))
    refine bodyPost_ret (res_ex rfl _ _ w.heap.size _ _ _ rfl (put3 HBX.out)) rfl ?_
    exact HE.out.leaf HF.out HPS.out 3 n
set_option maxRecDepth 100000 in
set_option maxHeartbeats 2000000 in
theorem p_none (pb : Nat) (s : ByteArray) (k : Nat) (w : World) (h : Ps pb s k w) (hk : k ≤ s.size) (hs : s.size ≤ 65536) (h1 : Go.PlainAid.bt s k ≠ 116) (h2 : Go.PlainAid.bt s k ≠ 102) (h3 : Go.PlainAid.bt s k ≠ 118) (h4 : Go.PlainAid.bt s k ≠ 40) :
    Calls Try.prog 15 #[.pointer (some ⟨pb, 0, none⟩)] w (XP pb s w (.bad k)) := by
  have he := Ent.mk' h
  have HE := Lib.hid he
  have HPK := Lib.hid (p_peek pb s k _ he.ps hk hs)
  have HND := Lib.hid (fun n => need_is open_ints' (by simp) (by simp) (he.ps.drewN n) hk hs)
  have hw : wordL s [40] k = (k, false) := by rw [wordL, if_neg h4]
  rw [hw] at HND
  have HFD := Lib.hid (fun n => Frm.drewN (Frm.refl (At pb) (w.alloc (.cells #[.int .i64 0, .int .i64 0, .slice none 0 0] 25))) n)
  have e1 : (Go.PlainAid.bt s k == 116) = false := by simp [h1]
  have e2 : (Go.PlainAid.bt s k == 102) = false := by simp [h2]
  have e3 : (Go.PlainAid.bt s k == 118) = false := by simp [h3]
  clear he h h1 h2 h3 h4 hw
  go_enter Try.func15, Try.ntmps15
  go_wp2_with (first
    | (go_at_call 24; (refine (HND.out _).mono ?_); rintro e w2 ⟨hf, _, he⟩; obtain rfl := he rfl)
    | (go_at_call 23; (refine HPK.out.mono ?_); rintro e w1 ⟨rfl, m, rfl⟩))
  exact ⟨rfl, rfl, HE.out.fr.trans ((HFD.out _).trans hf)⟩
end Go.Proofs.Ytipapemcedkinaa
