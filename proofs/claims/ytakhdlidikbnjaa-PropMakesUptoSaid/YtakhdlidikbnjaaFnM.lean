/- Contracts of Not, Var; layer 6 (prop). -/
import Derived.Test.YtakhdlidikbnjaaFnL
namespace Go.Proofs.Ytakhdlidikbnjaa
open Go.RowKit

set_option maxHeartbeats 1000000 in
theorem pr_Var (v : Int) (w : World) : Calls Try.prog 21 #[.int .i64 v] w fun e w' => e = .returned (.agg #[.int .i64 3, .int .i64 v, .slice none 0 0]) ∧ Below w.heap.size w w' := by
  go_enter Try.func21, Try.ntmps21
  go_wp2
  have hb : Below w.heap.size w (w.alloc (.cells #[.int .i64 3, .int .i64 v, .slice none 0 0] 24)) := (Below.refl _ _).alloc (Nat.le_refl _) _
  exact bodyPost_ret (v := .agg #[.int .i64 3, .int .i64 v, .slice none 0 0]) (by simp [results, Try.results21, go_sem]) rfl ⟨rfl, hb⟩
/-- A row of one expression. -/
theorem RepS.one {P : Nat → Prop} {w : World} {b : Nat} {o v : Int} {u : Ex} {A : Option Addr} {c : Nat} (hP : P b) (h : Blk w b 24 (exC u A c)) (hu : RepS P w A u) : RepS P w (some ⟨b, 0, none⟩) (.mk o v [u]) := by
  refine .mk _ _ (fun _ => A) (fun _ => c) (fun _ => ⟨b, 0, rfl, hP, fun i hi => ?_⟩) (fun i hi => ?_)
  · have h0 : i = 0 := by have : i < 1 := hi; omega
    subst h0
    exact ⟨h.cell 0, h.cell 1, h.cell 2⟩
  · have h0 : i = 0 := by have : i < 1 := hi; omega
    subst h0
    exact hu
set_option maxRecDepth 100000 in
set_option maxHeartbeats 4000000 in
theorem pr_Not (Q : Nat → Prop) (u : Ex) (A : Option Addr) (c : Nat) (w : World) (hs : u.sz ≤ 1000000) (hR : RepS Q w A u) (hQ : ∀ x, Q x → x < w.heap.size) :
    Calls Try.prog 20 #[exV u A c] w (GivesT Q w (.mk 4 0 [u])) := by
  obtain ⟨W0, hW0⟩ : ∃ W0, w.alloc (.cells (exC u A c) 24) = W0 := ⟨_, rfl⟩
  have hb0 : Below w.heap.size w W0 := by rw [← hW0]; exact (Below.refl _ _).alloc (Nat.le_refl _) _
  have hz0 : W0.heap.size = w.heap.size + 1 := by rw [← hW0]; simp
  obtain ⟨W1, hW1⟩ : ∃ W1, W0.alloc (.cells #[.int .i64 0, .int .i64 0, .slice none 0 0] 24) = W1 := ⟨_, rfl⟩
  have hb1 : Below W0.heap.size W0 W1 := by rw [← hW1]; exact (Below.refl _ _).alloc (Nat.le_refl _) _
  have hz1 : W1.heap.size = w.heap.size + 1 + 1 := by rw [← hW1, ← hz0]; simp
  have hk1 : Blk W1 (w.heap.size + 1) 24 #[.int .i64 0, .int .i64 0, .slice none 0 0] := by
    have h := Blk.new W0 24 #[.int .i64 0, .int .i64 0, .slice none 0 0]
    rw [hz0] at h
    rw [← hW1]; exact h
  obtain ⟨W2, hW2⟩ : ∃ W2, W1.alloc (.cells (exC u A c) 24) = W2 := ⟨_, rfl⟩
  have hb2 : Below W1.heap.size W1 W2 := by rw [← hW2]; exact (Below.refl _ _).alloc (Nat.le_refl _) _
  have hz2 : W2.heap.size = w.heap.size + 1 + 1 + 1 := by rw [← hW2, ← hz1]; simp
  have hk2 : Blk W2 (w.heap.size + 1 + 1) 24 (exC u A c) := by
    have h := Blk.new W1 24 (exC u A c)
    rw [hz1] at h
    rw [← hW2]; exact h
  have hb02 : Below w.heap.size w W2 := (hb0.trans (hb1.mono (by omega))).trans (hb2.mono (by omega))
  have hu2 : RepS (fun x => Q x ∨ x = w.heap.size + 1 + 1) W2 A u := (hR.kept (fun x hx => hb02.block x (hQ x hx))).mono (fun x hx => .inl hx)
  have hsz : (Ex.mk 4 0 [u]).sz ≤ 100000000 := by
    show 1 + (u.sz + 0) ≤ 100000000
    omega
  have hJ := join_op 4 (fun x => Q x ∨ x = w.heap.size + 1 + 1) (.mk 4 0 [u]) rfl rfl (some ⟨w.heap.size + 1 + 1, 0, none⟩) 1 W2 hsz (RepS.one (.inr rfl) hk2 hu2) (fun x hx => by rcases hx with hx | hx; have := hQ x hx; all_goals omega)
  have hJ2 : Calls Try.prog 37 #[.int .i64 4, .slice (some ⟨w.heap.size + 1 + 1, 0, none⟩) 1 1] W2 (GivesT (fun x => Q x ∨ x = w.heap.size + 1 + 1) W2 (.mk 4 0 [u])) := hJ
  have HJ := Lib.hid hJ2
  have HW : Hid (((w.alloc (.cells (exC u A c) 24)).alloc (.cells #[.int .i64 0, .int .i64 0, .slice none 0 0] 24)).alloc (.cells (exC u A c) 24) = W2) := Lib.hid (by rw [hW0, hW1, hW2])
  have HA : Hid (W0.alloc (.cells #[.int .i64 0, .int .i64 0, .slice none 0 0] 24) = W1) := Lib.hid hW1
  have HK1 := Lib.hid (hk1.below hb2 (by omega))
  have HB := Lib.hid (And.intro hb0 (And.intro hb1 hb2))
  have HZ := Lib.hid (And.intro hz0 (And.intro hz1 hz2))
  have HQQ := Lib.hid hQ
  clear hW0 hW1 hW2 hb0 hb1 hb2 hz0 hz1 hz2 hk1 hk2 hb02 hu2 hJ hJ2 hR hQ hsz hs
  go_enter Try.func20, Try.ntmps20
  go_wp2_with (go_at_call 37; rw [HW.out]; (with_reducible refine HJ.out.mono ?_); rintro e w1 ⟨A1, c1, rfl, hr1, hb1⟩; have hk1 := HK1.out.below hb1 HK1.out.lt; have y0 : w1.cell? ⟨w.heap.size + 1, 0, none⟩ = some (.int .i64 0) := hk1.cell 0; have y1 : w1.cell? ⟨w.heap.size + 1, 1, none⟩ = some (.int .i64 0) := hk1.cell 1; have y2 : w1.cell? ⟨w.heap.size + 1, 2, none⟩ = some (.slice none 0 0) := hk1.cell 2; have z0 := hk1.frozen 0; have z1 := hk1.frozen 1; have z2 := hk1.frozen 2; have hll := hk1.lt; have HR1 := Lib.hid hr1; have HB1 := Lib.hid hb1; have HKK := Lib.hid hk1; clear hr1 hb1 hk1)
  obtain ⟨hb0, hb1, hb2⟩ := HB.out
  obtain ⟨hz0, hz1, hz2⟩ := HZ.out
  have hA := HA.out
  have hfin := fin_res (fun x => x < w.heap.size + 1 ∧ Q x) (.mk 4 0 [u]) A1 c1 W0 w1 (o := .cells #[.int .i64 0, .int .i64 0, .slice none 0 0] 24) (by rw [hA]; exact hb1) (by rw [hA]; exact hb2.trans (HB1.out.mono hb2.size)) (by rw [hA]; omega) (by rw [hz0]; exact HKK.out)
    (HR1.out.mono (fun x hx => ⟨by
      rw [hA, hz1]
      rcases hx.1 with (h | h) | h
      · exact .inl ⟨by have := HQQ.out x h; omega, h⟩
      · exact .inr (by omega)
      · exact .inr (by omega), hx.2⟩)) (fun x hx => by omega)
  have hb5 := hfin.2.2.2.2
  unfold fin3 at hfin
  rw [hz0] at hfin
  obtain ⟨d0, d1, d2, hrep, _⟩ := hfin
  unfold fin3 at hb5
  have hb6 := hb0.trans (hb5.mono hb0.size)
  rw [hz0] at hb6
  exact bodyPost_ret (v := exV (.mk 4 0 [u]) A1 c1) (by simp [results, Try.results20, go_sem, d0, d1, d2]) rfl ⟨A1, c1, rfl, hrep.mono (fun x hx => ⟨hx.1.elim (fun h => .inl h.2) (fun h => .inr (by omega)), hx.2⟩), hb6⟩
end Go.Proofs.Ytakhdlidikbnjaa
