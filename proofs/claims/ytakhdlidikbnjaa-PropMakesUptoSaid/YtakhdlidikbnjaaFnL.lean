/- Contracts of And, Or, Not, Var; layer 6 (prop). -/
import Derived.Test.YtakhdlidikbnjaaFnK
namespace Go.Proofs.Ytakhdlidikbnjaa
open Go.RowKit

abbrev fin3 (w w1 : World) (t : Ex) (A : Option Addr) (c : Nat) : World := ((w1.setCell ⟨w.heap.size, 0, none⟩ (.int .i64 t.op)).setCell ⟨w.heap.size, 1, none⟩ (.int .i64 t.vr)).setCell ⟨w.heap.size, 2, none⟩ (.slice A t.ks.length c)
theorem fin_res (Q : Nat → Prop) (t : Ex) (A : Option Addr) (c : Nat) (w w1 : World) {o : Obj} (hb0 : Below w.heap.size w (w.alloc o)) (hb1 : Below (w.alloc o).heap.size (w.alloc o) w1) (hz0 : (w.alloc o).heap.size = w.heap.size + 1)
    {x y z : Value} (hk : Blk w1 w.heap.size 24 #[x, y, z]) (hr : RepS (fun x => (Q x ∨ (w.alloc o).heap.size ≤ x) ∧ x < w1.heap.size) w1 A t) (hQ : ∀ x, Q x → x < w.heap.size) :
    (fin3 w w1 t A c).cell? ⟨w.heap.size, 0, none⟩ = some (.int .i64 t.op) ∧ (fin3 w w1 t A c).cell? ⟨w.heap.size, 1, none⟩ = some (.int .i64 t.vr) ∧ (fin3 w w1 t A c).cell? ⟨w.heap.size, 2, none⟩ = some (.slice A t.ks.length c) ∧
    RepS (fun x => (Q x ∨ w.heap.size ≤ x) ∧ x < (fin3 w w1 t A c).heap.size) (fin3 w w1 t A c) A t ∧ Below w.heap.size w (fin3 w w1 t A c) := by
  have h5 : Blk (fin3 w w1 t A c) w.heap.size 24 #[.int .i64 t.op, .int .i64 t.vr, .slice A t.ks.length c] := ((hk.set_ 0 _).set_ 1 _).set_ 2 _
  have hblk : ∀ x, x ≠ w.heap.size → (fin3 w w1 t A c).heap[x]? = w1.heap[x]? := fun x hx => by
    have hn : ¬ w.heap.size = x := fun e => hx e.symm
    simp [World.setCell, Array.getElem?_modify, hn]
  have hbw : Below w.heap.size w w1 := hb0.trans (hb1.mono hb0.size)
  refine ⟨h5.cell 0, h5.cell 1, h5.cell 2, ?_, ((hbw.setCell (by simp) _).setCell (by simp) _).setCell (by simp) _⟩
  refine (hr.kept (fun x hx => hblk x (fun e => ?_))).mono (fun x hx => ⟨?_, by simpa using hx.2⟩)
  · rcases hx.1 with h | h
    · have := hQ x h; omega
    · omega
  · rcases hx.1 with h | h
    · exact .inl h
    · exact .inr (by omega)
set_option maxHeartbeats 2000000 in
theorem pr_And (Q : Nat → Prop) (t : Ex) (ho : t.op = 5) (hv : t.vr = 0) (A : Option Addr) (c : Nat) (w : World) (hs : t.sz ≤ 100000000) (hR : RepS Q w A t) (hQ : ∀ x, Q x → x < w.heap.size) :
    Calls Try.prog 17 #[.slice A t.ks.length c] w (GivesT Q w t) := by
  have hb0 : Below w.heap.size w (w.alloc (.cells #[.int .i64 0, .int .i64 0, .slice none 0 0] 24)) := (Below.refl _ _).alloc (Nat.le_refl _) _
  have hz0 : (w.alloc (.cells #[.int .i64 0, .int .i64 0, .slice none 0 0] 24)).heap.size = w.heap.size + 1 := by simp
  have hk0 := Blk.new w 24 #[.int .i64 0, .int .i64 0, .slice none 0 0]
  have HJ := Lib.hid (join_op 5 Q t ho hv A c (w.alloc (.cells #[.int .i64 0, .int .i64 0, .slice none 0 0] 24)) hs (hR.kept (fun x hx => hb0.block x (hQ x hx))) (fun x hx => by have := hQ x hx; omega))
  have HB0 := Lib.hid hb0
  have HZ0 := Lib.hid hz0
  have HK0 := Lib.hid hk0
  have HQQ := Lib.hid hQ
  clear hb0 hz0 hk0 hR hQ ho hv hs
  go_enter Try.func17, Try.ntmps17
  go_wp2_with (go_at_call 37; (with_reducible refine HJ.out.mono ?_); rintro e w1 ⟨A1, c1, rfl, hr1, hb1⟩; have hk1 := HK0.out.below hb1 HK0.out.lt; have y0 : w1.cell? ⟨w.heap.size, 0, none⟩ = some (.int .i64 0) := hk1.cell 0; have y1 : w1.cell? ⟨w.heap.size, 1, none⟩ = some (.int .i64 0) := hk1.cell 1; have y2 : w1.cell? ⟨w.heap.size, 2, none⟩ = some (.slice none 0 0) := hk1.cell 2; have z0 := hk1.frozen 0; have z1 := hk1.frozen 1; have z2 := hk1.frozen 2; have hll := hk1.lt; have HR1 := Lib.hid hr1; have HB1 := Lib.hid hb1; have HK1 := Lib.hid hk1; clear hr1 hb1 hk1)
  have hfin := fin_res Q t A1 c1 w w1 HB0.out HB1.out HZ0.out HK1.out HR1.out HQQ.out
  obtain ⟨d0, d1, d2, hrep, hb5⟩ := hfin
  exact bodyPost_ret (v := exV t A1 c1) (by simp [results, Try.results17, go_sem, d0, d1, d2]) rfl ⟨A1, c1, rfl, hrep, hb5⟩
set_option maxHeartbeats 2000000 in
theorem pr_Or (Q : Nat → Prop) (t : Ex) (ho : t.op = 6) (hv : t.vr = 0) (A : Option Addr) (c : Nat) (w : World) (hs : t.sz ≤ 100000000) (hR : RepS Q w A t) (hQ : ∀ x, Q x → x < w.heap.size) :
    Calls Try.prog 18 #[.slice A t.ks.length c] w (GivesT Q w t) := by
  have hb0 : Below w.heap.size w (w.alloc (.cells #[.int .i64 0, .int .i64 0, .slice none 0 0] 24)) := (Below.refl _ _).alloc (Nat.le_refl _) _
  have hz0 : (w.alloc (.cells #[.int .i64 0, .int .i64 0, .slice none 0 0] 24)).heap.size = w.heap.size + 1 := by simp
  have hk0 := Blk.new w 24 #[.int .i64 0, .int .i64 0, .slice none 0 0]
  have HJ := Lib.hid (join_op 6 Q t ho hv A c (w.alloc (.cells #[.int .i64 0, .int .i64 0, .slice none 0 0] 24)) hs (hR.kept (fun x hx => hb0.block x (hQ x hx))) (fun x hx => by have := hQ x hx; omega))
  have HB0 := Lib.hid hb0
  have HZ0 := Lib.hid hz0
  have HK0 := Lib.hid hk0
  have HQQ := Lib.hid hQ
  clear hb0 hz0 hk0 hR hQ ho hv hs
  go_enter Try.func18, Try.ntmps18
  go_wp2_with (go_at_call 37; (with_reducible refine HJ.out.mono ?_); rintro e w1 ⟨A1, c1, rfl, hr1, hb1⟩; have hk1 := HK0.out.below hb1 HK0.out.lt; have y0 : w1.cell? ⟨w.heap.size, 0, none⟩ = some (.int .i64 0) := hk1.cell 0; have y1 : w1.cell? ⟨w.heap.size, 1, none⟩ = some (.int .i64 0) := hk1.cell 1; have y2 : w1.cell? ⟨w.heap.size, 2, none⟩ = some (.slice none 0 0) := hk1.cell 2; have z0 := hk1.frozen 0; have z1 := hk1.frozen 1; have z2 := hk1.frozen 2; have hll := hk1.lt; have HR1 := Lib.hid hr1; have HB1 := Lib.hid hb1; have HK1 := Lib.hid hk1; clear hr1 hb1 hk1)
  have hfin := fin_res Q t A1 c1 w w1 HB0.out HB1.out HZ0.out HK1.out HR1.out HQQ.out
  obtain ⟨d0, d1, d2, hrep, hb5⟩ := hfin
  exact bodyPost_ret (v := exV t A1 c1) (by simp [results, Try.results18, go_sem, d0, d1, d2]) rfl ⟨A1, c1, rfl, hrep, hb5⟩
end Go.Proofs.Ytakhdlidikbnjaa
