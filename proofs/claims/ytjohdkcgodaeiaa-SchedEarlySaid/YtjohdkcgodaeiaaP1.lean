/- better and best: the first of the best candidates; layer 42 (sched). -/
import Derived.Test.YtjohdkcgodaeiaaV2
import Derived.Deep.Cut
import Derived.Deep.RegionHeld3
namespace Go.Proofs.Ytjohdkcgodaeiaa
open Go.RowKit

/-- A candidate: the part, how many variables it has alone, how many that are new. -/
structure Cd where
  p : Int
  a : Int
  f : Int
def cdR (c : Cd) : List Value := [.int .i64 c.p, .int .i64 c.a, .int .i64 c.f]
def cdV (c : Cd) : Value := .agg #[.int .i64 c.p, .int .i64 c.a, .int .i64 c.f]
def btr (a b : Cd) : Bool := if a.a = b.a then decide (a.f < b.f) else decide (b.a < a.a)
def bst (c : Cd) : List Cd → Cd
  | [] => c
  | x :: r => bst (if btr x c then x else c) r
def cdRow (C : List Cd) : Array Value := (C.flatMap cdR).toArray
def cdAt (C : List Cd) (k : Nat) : Cd := C.getD k ⟨0, 0, 0⟩
theorem cdFlat_at : ∀ (C : List Cd) (k j : Nat), k < C.length → j < 3 → (C.flatMap cdR)[k * 3 + j]? = (cdR (cdAt C k))[j]?
  | [], _, _, h, _ => by simp at h
  | t :: r, 0, j, _, hj => by
    have hl : (cdR t).length = 3 := rfl
    rw [List.flatMap_cons, Nat.zero_mul, Nat.zero_add, List.getElem?_append_left (by rw [hl]; exact hj)]
    rfl
  | t :: r, k + 1, j, h, hj => by
    have hl : (cdR t).length = 3 := rfl
    rw [List.flatMap_cons, List.getElem?_append_right (by rw [hl]; omega), hl, show (k + 1) * 3 + j - 3 = k * 3 + j by omega]
    rw [cdFlat_at r k j (by simpa using h) hj]
    rfl
theorem cdRow_at {C : List Cd} {k j : Nat} (h : k < C.length) (hj : j < 3) : (cdRow C)[k * 3 + j]? = (cdR (cdAt C k))[j]? := by
  unfold cdRow
  rw [List.getElem?_toArray]; exact cdFlat_at C k j h hj
theorem cd_three {w : World} {g : Nat} {C : List Cd} (h : Blk w g 50 (cdRow C)) {k : Nat} (hk : k < C.length) :
    w.cell? ⟨g, k * 3, none⟩ = some (.int .i64 (cdAt C k).p) ∧ w.cell? ⟨g, k * 3 + 1, none⟩ = some (.int .i64 (cdAt C k).a) ∧ w.cell? ⟨g, k * 3 + 2, none⟩ = some (.int .i64 (cdAt C k).f) := by
  refine ⟨?_, ?_, ?_⟩
  · have := cdRow_at hk (j := 0) (by omega)
    rw [h.cell, ← Nat.add_zero (k * 3), this]; rfl
  · rw [h.cell, cdRow_at hk (by omega)]; rfl
  · rw [h.cell, cdRow_at hk (by omega)]; rfl
theorem bst_take {c : Cd} {cs : List Cd} {k : Nat} (h : k < cs.length) : bst c (cs.take (k + 1)) = if btr (cdAt cs k) (bst c (cs.take k)) then cdAt cs k else bst c (cs.take k) := by
  induction cs generalizing c k with
  | nil => simp at h
  | cons x r ih =>
    cases k with
    | zero => simp [bst, cdAt]
    | succ k =>
      have e : cdAt (x :: r) (k + 1) = cdAt r k := rfl
      rw [List.take_succ_cons, List.take_succ_cons, bst, bst, e]
      exact ih (by simpa using h)
set_option maxHeartbeats 2000000 in
theorem p_better (a b : Cd) (w : World) : Calls Try.prog 23 #[cdV a, cdV b] w fun e w' => e = .returned (.bool (btr a b)) ∧ Below w.heap.size w w' := by
  obtain ⟨ap, aa, af⟩ := a
  obtain ⟨bp, ba, bf⟩ := b
  obtain ⟨q, hq⟩ : ∃ q, btr ⟨ap, aa, af⟩ ⟨bp, ba, bf⟩ = q := ⟨_, rfl⟩
  rw [hq]
  unfold btr at hq
  dsimp only at hq
  by_cases h : aa = ba
  · have h1 : (aa != ba) = false := by simp [h]
    rw [if_pos h] at hq
    have HQ := Lib.hid hq
    unfold cdV
    clear hq h
    go_enter Try.func23, Try.ntmps23
    go_wp2
    go_ret
    exact ⟨by rw [← HQ.out]; rfl, by first | exact ((Below.refl _ _).alloc (Nat.le_refl _) _).alloc (by simp) _ | go_grown⟩
  · have h1 : (aa != ba) = true := by simp [h]
    rw [if_neg h] at hq
    have HQ := Lib.hid hq
    unfold cdV
    clear hq h
    go_enter Try.func23, Try.ntmps23
    go_wp2
    go_ret
    exact ⟨by rw [← HQ.out]; rfl, by first | exact ((Below.refl _ _).alloc (Nat.le_refl _) _).alloc (by simp) _ | go_grown⟩
theorem Blk.three {w : World} {g : Nat} {t : TypeId} {x y z a b c : Value} (h : Blk w g t #[x, y, z]) : Blk (((w.setCell ⟨g, 0, none⟩ a).setCell ⟨g, 1, none⟩ b).setCell ⟨g, 2, none⟩ c) g t #[a, b, c] := ((h.set_ 0 a).set_ 1 b).set_ 2 c
theorem Blk.set_other {w : World} {g : Nat} {t : TypeId} {cs : Array Value} (h : Blk w g t cs) {b : Nat} (hb : b ≠ g) (i : Nat) (u : Value) : Blk (w.setCell ⟨b, i, none⟩ u) g t cs := by
  unfold Blk at h ⊢
  simp [World.setCell, Array.getElem?_modify, h, hb]
theorem Blk.three_other {w : World} {g b : Nat} {t : TypeId} {cs : Array Value} {x y z : Value} (h : Blk w g t cs) (hb : b ≠ g) : Blk (((w.setCell ⟨b, 0, none⟩ x).setCell ⟨b, 1, none⟩ y).setCell ⟨b, 2, none⟩ z) g t cs := ((h.set_other hb 0 x).set_other hb 1 y).set_other hb 2 z
theorem Blk.alloc {w : World} {g : Nat} {t : TypeId} {cs : Array Value} (h : Blk w g t cs) (o : Obj) : Blk (w.alloc o) g t cs := by
  have hb : Below w.heap.size w (w.alloc o) := (Below.refl _ _).alloc (Nat.le_refl _) _
  exact h.below hb h.lt
theorem below_three {B : Nat} {w0 w : World} {g : Nat} {x y z : Value} (h : Below B w0 w) (hg : B ≤ g) : Below B w0 (((w.setCell ⟨g, 0, none⟩ x).setCell ⟨g, 1, none⟩ y).setCell ⟨g, 2, none⟩ z) :=
  ((h.setCell (p := ⟨g, 0, none⟩) hg _).setCell (p := ⟨g, 1, none⟩) hg _).setCell (p := ⟨g, 2, none⟩) hg _
theorem size_three {w : World} {g : Nat} {x y z : Value} : (((w.setCell ⟨g, 0, none⟩ x).setCell ⟨g, 1, none⟩ y).setCell ⟨g, 2, none⟩ z).heap.size = w.heap.size := by simp [World.setCell]
def cd0 : Array Value := #[.int .i64 0, .int .i64 0, .int .i64 0]
def cdA (c : Cd) : Array Value := #[.int .i64 c.p, .int .i64 c.a, .int .i64 c.f]
set_option maxRecDepth 100000 in
set_option maxHeartbeats 8000000 in
theorem p_best1 (g : Nat) (c0 : Cd) (w : World) (h : Blk w g 50 (cdRow [c0])) :
    Calls Try.prog 21 #[.slice (some ⟨g, 0, none⟩) 1 1, .func (.func 23) #[] #[]] w fun e w' => e = .returned (cdV c0) ∧ Below w.heap.size w w' := by
  obtain ⟨z0, z1, z2⟩ := cd_three h (k := 0) (by simp)
  obtain ⟨p0, a0, f0⟩ := c0
  have y0 : w.cell? ⟨g, 0, none⟩ = some (.int .i64 p0) := z0
  have y1 : w.cell? ⟨g, 1, none⟩ = some (.int .i64 a0) := z1
  have y2 : w.cell? ⟨g, 2, none⟩ = some (.int .i64 f0) := z2
  have hgl := h.lt
  clear z0 z1 z2 h
  have hZ1 : Blk ((w.alloc (.cells cd0 50)).alloc (.cells #[.int .i64 p0, .int .i64 a0, .int .i64 f0] 50)) w.heap.size 50 cd0 := (Blk.new w 50 cd0).alloc _
  have hF1 : Blk ((w.alloc (.cells cd0 50)).alloc (.cells #[.int .i64 p0, .int .i64 a0, .int .i64 f0] 50)) (w.heap.size + 1) 50 #[.int .i64 p0, .int .i64 a0, .int .i64 f0] := by
    have := Blk.new (w.alloc (.cells cd0 50)) 50 #[.int .i64 p0, .int .i64 a0, .int .i64 f0]
    rwa [show (w.alloc (.cells cd0 50)).heap.size = w.heap.size + 1 by simp] at this
  have hB1 : Below w.heap.size w ((w.alloc (.cells cd0 50)).alloc (.cells #[.int .i64 p0, .int .i64 a0, .int .i64 f0] 50)) := ((Below.refl _ _).alloc (Nat.le_refl _) _).alloc (by simp) _
  have HZ1 := Lib.hid hZ1
  have HF1 := Lib.hid hF1
  have HB1 := Lib.hid hB1
  clear hZ1 hF1 hB1
  go_enter Try.func21, Try.ntmps21
  go_upto_region 3 with (fail)
  go_loopw [14] (fun i wr => i = .int .i64 0 ∧ Hid (Blk wr w.heap.size 50 cd0 ∧ Blk wr (w.heap.size + 1) 50 #[.int .i64 p0, .int .i64 a0, .int .i64 f0] ∧ Below w.heap.size w wr)) (fun i _ => 0)
  case atStart => exact ⟨rfl, Lib.hid ⟨HZ1.out, HF1.out, HB1.out⟩⟩
  case round =>
    obtain ⟨rfl, HQ⟩ := hrel
    obtain ⟨hZ, hF, hb⟩ := HQ.out
    have f0' : wr.cell? ⟨w.heap.size + 1, 0, none⟩ = some (.int .i64 p0) := hF.cell 0
    have f1' : wr.cell? ⟨w.heap.size + 1, 1, none⟩ = some (.int .i64 a0) := hF.cell 1
    have f2' : wr.cell? ⟨w.heap.size + 1, 2, none⟩ = some (.int .i64 f0) := hF.cell 2
    have m0 : wr.cell? ⟨w.heap.size, 0, none⟩ = some (.int .i64 0) := hZ.cell 0
    have m1 : wr.cell? ⟨w.heap.size, 1, none⟩ = some (.int .i64 0) := hZ.cell 1
    have m2 : wr.cell? ⟨w.heap.size, 2, none⟩ = some (.int .i64 0) := hZ.cell 2
    have n0 := hZ.frozen 0
    have n1 := hZ.frozen 1
    have n2 := hZ.frozen 2
    have HZ := Lib.hid hZ
    have HB := Lib.hid hb
    clear hZ hF hb HQ y0 y1 y2
    go_wp2
    obtain ⟨W5, hW5⟩ : ∃ W, W = ((wr.setCell ⟨w.heap.size, 0, none⟩ (.int .i64 p0)).setCell ⟨w.heap.size, 1, none⟩ (.int .i64 a0)).setCell ⟨w.heap.size, 2, none⟩ (.int .i64 f0) := ⟨_, rfl⟩
    rw [← hW5]
    have HK5 : Hid (Blk W5 w.heap.size 50 #[.int .i64 p0, .int .i64 a0, .int .i64 f0]) := Lib.hid (by rw [hW5]; exact HZ.out.three)
    have HB5 : Hid (Below w.heap.size w W5) := Lib.hid (by rw [hW5]; exact below_three HB.out (Nat.le_refl _))
    clear hW5 m0 m1 m2 n0 n1 n2 f0' f1' f2'
    have c0 : W5.cell? ⟨w.heap.size, 0, none⟩ = some (.int .i64 p0) := HK5.out.cell 0
    have c1 : W5.cell? ⟨w.heap.size, 1, none⟩ = some (.int .i64 a0) := HK5.out.cell 1
    have c2 : W5.cell? ⟨w.heap.size, 2, none⟩ = some (.int .i64 f0) := HK5.out.cell 2
    exact bodyPost_ret (v := Value.agg #[.int .i64 p0, .int .i64 a0, .int .i64 f0]) (by simp [results, Try.results21, go_sem, c0, c1, c2]) rfl ⟨rfl, HB5.out⟩
set_option maxRecDepth 100000 in
set_option maxHeartbeats 8000000 in
theorem p_best (g : Nat) (c0 : Cd) (cs : List Cd) (w : World) (h : Blk w g 50 (cdRow (c0 :: cs))) (hm : cs.length ≤ 1000000) :
    Calls Try.prog 21 #[.slice (some ⟨g, 0, none⟩) (cs.length + 1) (cs.length + 1), .func (.func 23) #[] #[]] w fun e w' => e = .returned (cdV (bst c0 cs)) ∧ Below w.heap.size w w' := by
  rcases Nat.eq_zero_or_pos cs.length with hz | hz
  · obtain rfl : cs = [] := List.eq_nil_of_length_eq_zero hz
    exact p_best1 g c0 w h
  obtain ⟨n, hn⟩ : ∃ n, cs.length = n := ⟨_, rfl⟩
  have hgl := h.lt
  obtain ⟨z0, z1, z2⟩ := cd_three h (k := 0) (by simp)
  have y0 : w.cell? ⟨g, 0, none⟩ = some (.int .i64 c0.p) := z0
  have y1 : w.cell? ⟨g, 1, none⟩ = some (.int .i64 c0.a) := z1
  have y2 : w.cell? ⟨g, 2, none⟩ = some (.int .i64 c0.f) := z2
  have HX : Hid (∀ k, k < n → w.cell? ⟨g, 3 + k * 3, none⟩ = some (.int .i64 (cdAt cs k).p) ∧ w.cell? ⟨g, 3 + k * 3 + 1, none⟩ = some (.int .i64 (cdAt cs k).a) ∧ w.cell? ⟨g, 3 + k * 3 + 2, none⟩ = some (.int .i64 (cdAt cs k).f)) := Lib.hid (fun k hk => by
    have := cd_three h (k := k + 1) (by simp; omega)
    rw [show (k + 1) * 3 = 3 + k * 3 by omega] at this
    exact this)
  have k1 : (0 : Int) < ((n + 1 : Nat) : Int) := by omega
  have k2 : (1 : Int) ≤ ((n + 1 : Nat) : Int) := by omega
  have k4 : ¬ n = 0 := by omega
  rw [hn] at hm ⊢
  have HN := Lib.hid hn
  have HTK : Hid (bst c0 (cs.take n) = bst c0 cs) := Lib.hid (by rw [List.take_of_length_le (by omega)])
  have HT := Lib.hid (fun (k : Nat) (hk : k < n) => bst_take (c := c0) (cs := cs) (k := k) (by omega))
  have HW0 : Hid (∀ x y z, Blk ((w.alloc (.cells cd0 50)).alloc (.cells #[x, y, z] 50)) (w.heap.size + 1) 50 #[x, y, z] ∧
      Blk ((w.alloc (.cells cd0 50)).alloc (.cells #[x, y, z] 50)) w.heap.size 50 cd0 ∧
      Below w.heap.size w ((w.alloc (.cells cd0 50)).alloc (.cells #[x, y, z] 50))) := Lib.hid (fun x y z => by
    have h1 : Blk ((w.alloc (.cells cd0 50)).alloc (.cells #[x, y, z] 50)) (w.heap.size + 1) 50 #[x, y, z] := by
      have := Blk.new (w.alloc (.cells cd0 50)) 50 #[x, y, z]
      rwa [show (w.alloc (.cells cd0 50)).heap.size = w.heap.size + 1 by simp] at this
    have h2 : Blk ((w.alloc (.cells cd0 50)).alloc (.cells #[x, y, z] 50)) w.heap.size 50 cd0 := (Blk.new w 50 cd0).alloc _
    exact ⟨h1, h2, ((Below.refl _ _).alloc (Nat.le_refl _) _).alloc (by simp) _⟩)
  clear h hn z0 z1 z2 hz
  go_enter Try.func21, Try.ntmps21
  go_upto_region 3 with (fail)
  clear y0 y1 y2
  go_loopw [14] (fun i wr => ∃ k : Nat, k ≤ n ∧ i = .int .i64 (k : Int) ∧ Hid (Blk wr (w.heap.size + 1) 50 (cdA (bst c0 (cs.take k))) ∧ Blk wr w.heap.size 50 cd0) ∧ Below w.heap.size w wr) (fun i _ => n - (intOf i).toNat)
  case atStart => exact ⟨0, Nat.zero_le _, rfl, Lib.hid ⟨(HW0.out _ _ _).1, (HW0.out _ _ _).2.1⟩, (HW0.out _ _ _).2.2⟩
  case round =>
    obtain ⟨k, hk, rfl, HBK, hb⟩ := hrel
    obtain ⟨hF, hZ⟩ := HBK.out
    have HB := Lib.hid hb
    by_cases hlt : k < n
    · have h1 : (k : Int) < (n : Int) := by omega
      obtain ⟨x0, x1, x2⟩ := HX.out k hlt
      have hstep := HT.out k hlt
      have d0 := (hb.cell (p := ⟨g, 3 + k * 3, none⟩) hgl).trans x0
      have d1 := (hb.cell (p := ⟨g, 3 + k * 3 + 1, none⟩) hgl).trans x1
      have d2 := (hb.cell (p := ⟨g, 3 + k * 3 + 2, none⟩) hgl).trans x2
      obtain ⟨c, hcc⟩ : ∃ c, bst c0 (cs.take k) = c := ⟨_, rfl⟩
      obtain ⟨c', hcc'⟩ : ∃ c, bst c0 (cs.take (k + 1)) = c := ⟨_, rfl⟩
      rw [hcc] at hF hstep
      rw [hcc'] at hstep
      have HCC := Lib.hid hcc'
      generalize cdAt cs k = x at *
      obtain ⟨xp, xa, xf⟩ := x
      obtain ⟨cp, ca, cf⟩ := c
      dsimp only at d0 d1 d2
      have HBT : Hid (∀ w, Calls Try.prog 23 #[.agg #[.int .i64 xp, .int .i64 xa, .int .i64 xf], .agg #[.int .i64 cp, .int .i64 ca, .int .i64 cf]] w fun e w' => e = .returned (.bool (btr ⟨xp, xa, xf⟩ ⟨cp, ca, cf⟩)) ∧ Below w.heap.size w w') := Lib.hid (fun w => p_better ⟨xp, xa, xf⟩ ⟨cp, ca, cf⟩ w)
      obtain ⟨q, hq⟩ : ∃ q, btr ⟨xp, xa, xf⟩ ⟨cp, ca, cf⟩ = q := ⟨_, rfl⟩
      rw [hq] at HBT hstep
      have HSTEP := Lib.hid hstep
      have hs := hb.size
      have hF2 : Blk wr (w.heap.size + 1) 50 #[.int .i64 cp, .int .i64 ca, .int .i64 cf] := hF
      have hFl := hF.lt
      have HF := Lib.hid hF2
      have HZ := Lib.hid hZ
      have HW4 : Hid (Blk (wr.alloc (.cells #[.int .i64 xp, .int .i64 xa, .int .i64 xf] 50)) wr.heap.size 50 #[.int .i64 xp, .int .i64 xa, .int .i64 xf] ∧
          Blk (wr.alloc (.cells #[.int .i64 xp, .int .i64 xa, .int .i64 xf] 50)) (w.heap.size + 1) 50 #[.int .i64 cp, .int .i64 ca, .int .i64 cf] ∧
          Blk (wr.alloc (.cells #[.int .i64 xp, .int .i64 xa, .int .i64 xf] 50)) w.heap.size 50 cd0 ∧
          Below w.heap.size w (wr.alloc (.cells #[.int .i64 xp, .int .i64 xa, .int .i64 xf] 50))) := Lib.hid ⟨Blk.new wr 50 _, HF.out.alloc _, HZ.out.alloc _, hb.alloc hs _⟩
      clear hF hZ hstep hcc hcc' hq x0 x1 x2 hF2 HBK
      go_upto_region 5 with (fail)
      obtain ⟨W, hW⟩ : ∃ W, W = wr.alloc (.cells #[.int .i64 xp, .int .i64 xa, .int .i64 xf] 50) := ⟨_, rfl⟩
      rw [← hW]
      have HW5 := HW4.out
      rw [← hW] at HW5
      obtain ⟨r1, r2, r3, r4⟩ := HW5
      have HR1 := Lib.hid r1
      have HR2 := Lib.hid r2
      have HR3 := Lib.hid r3
      have HR4 := Lib.hid r4
      have e0 : W.cell? ⟨wr.heap.size, 0, none⟩ = some (.int .i64 xp) := r1.cell 0
      have e1 : W.cell? ⟨wr.heap.size, 1, none⟩ = some (.int .i64 xa) := r1.cell 1
      have e2 : W.cell? ⟨wr.heap.size, 2, none⟩ = some (.int .i64 xf) := r1.cell 2
      have f0 : W.cell? ⟨w.heap.size + 1, 0, none⟩ = some (.int .i64 cp) := r2.cell 0
      have f1 : W.cell? ⟨w.heap.size + 1, 1, none⟩ = some (.int .i64 ca) := r2.cell 1
      have f2 : W.cell? ⟨w.heap.size + 1, 2, none⟩ = some (.int .i64 cf) := r2.cell 2
      clear d0 d1 d2 HW4 hW r1 r2 r3 r4
      cases q
      · have HE : Hid (c' = ⟨cp, ca, cf⟩) := Lib.hid (by rw [HSTEP.out]; rfl)
        go_wp2_with (go_at_call 23; refine (HBT.out _).mono ?_; rintro e w5 ⟨rfl, hb5⟩; have HB5 := Lib.hid hb5; clear hb5)
        go_roundw
        case rel => exact ⟨k + 1, by omega, by go_num, Lib.hid ⟨by rw [HCC.out, HE.out]; exact HR2.out.below HB5.out HR2.out.lt, HR3.out.below HB5.out HR3.out.lt⟩, HR4.out.trans (HB5.out.mono HR4.out.size)⟩
        case measure => simp [intOf]; omega
      · have HE : Hid (c' = ⟨xp, xa, xf⟩) := Lib.hid (by rw [HSTEP.out]; rfl)
        go_wp2_with (go_at_call 23; refine (HBT.out _).mono ?_; rintro e w5 ⟨rfl, hb5⟩; have s1 := HR1.out.below hb5 HR1.out.lt; have s2 := HR2.out.below hb5 HR2.out.lt; have s3 := HR3.out.below hb5 HR3.out.lt; have HS2 := Lib.hid s2; have HS3 := Lib.hid s3; have HS4 := Lib.hid (HR4.out.trans (hb5.mono HR4.out.size)); have j0 : w5.cell? ⟨wr.heap.size, 0, none⟩ = some (.int .i64 xp) := s1.cell 0; have j1 : w5.cell? ⟨wr.heap.size, 1, none⟩ = some (.int .i64 xa) := s1.cell 1; have j2 : w5.cell? ⟨wr.heap.size, 2, none⟩ = some (.int .i64 xf) := s1.cell 2; have m0 : w5.cell? ⟨w.heap.size + 1, 0, none⟩ = some (.int .i64 cp) := s2.cell 0; have m1 : w5.cell? ⟨w.heap.size + 1, 1, none⟩ = some (.int .i64 ca) := s2.cell 1; have m2 : w5.cell? ⟨w.heap.size + 1, 2, none⟩ = some (.int .i64 cf) := s2.cell 2; have n0 := s2.frozen 0; have n1 := s2.frozen 1; have n2 := s2.frozen 2; clear hb5 s1 s2 s3 e0 e1 e2 f0 f1 f2)
        go_roundw
        case rel => exact ⟨k + 1, by omega, by go_num, Lib.hid ⟨by rw [HCC.out, HE.out]; exact HS2.out.three, HS3.out.three_other (by omega)⟩, below_three HS4.out (by omega)⟩
        case measure => simp [intOf]; omega
    · obtain rfl : k = n := by omega
      have h1 : ¬ (k : Int) < (k : Int) := by omega
      rw [HTK.out] at hF
      obtain ⟨c, hcc⟩ : ∃ c, bst c0 cs = c := ⟨_, rfl⟩
      rw [hcc] at hF
      have HCF := Lib.hid hcc
      obtain ⟨cp, ca, cf⟩ := c
      have f0 : wr.cell? ⟨w.heap.size + 1, 0, none⟩ = some (.int .i64 cp) := hF.cell 0
      have f1 : wr.cell? ⟨w.heap.size + 1, 1, none⟩ = some (.int .i64 ca) := hF.cell 1
      have f2 : wr.cell? ⟨w.heap.size + 1, 2, none⟩ = some (.int .i64 cf) := hF.cell 2
      have m0 : wr.cell? ⟨w.heap.size, 0, none⟩ = some (.int .i64 0) := hZ.cell 0
      have m1 : wr.cell? ⟨w.heap.size, 1, none⟩ = some (.int .i64 0) := hZ.cell 1
      have m2 : wr.cell? ⟨w.heap.size, 2, none⟩ = some (.int .i64 0) := hZ.cell 2
      have n0 := hZ.frozen 0
      have n1 := hZ.frozen 1
      have n2 := hZ.frozen 2
      clear hF hcc HBK
      have HZ := Lib.hid hZ
      clear hZ
      go_wp2
      obtain ⟨W5, hW5⟩ : ∃ W, W = ((wr.setCell ⟨w.heap.size, 0, none⟩ (.int .i64 cp)).setCell ⟨w.heap.size, 1, none⟩ (.int .i64 ca)).setCell ⟨w.heap.size, 2, none⟩ (.int .i64 cf) := ⟨_, rfl⟩
      rw [← hW5]
      have HK5 : Hid (Blk W5 w.heap.size 50 #[.int .i64 cp, .int .i64 ca, .int .i64 cf]) := Lib.hid (by rw [hW5]; exact HZ.out.three)
      have HB5 : Hid (Below w.heap.size w W5) := Lib.hid (by rw [hW5]; exact below_three HB.out (Nat.le_refl _))
      clear hW5 m0 m1 m2 n0 n1 n2 f0 f1 f2
      have c0 : W5.cell? ⟨w.heap.size, 0, none⟩ = some (.int .i64 cp) := HK5.out.cell 0
      have c1 : W5.cell? ⟨w.heap.size, 1, none⟩ = some (.int .i64 ca) := HK5.out.cell 1
      have c2 : W5.cell? ⟨w.heap.size, 2, none⟩ = some (.int .i64 cf) := HK5.out.cell 2
      refine bodyPost_ret (v := Value.agg #[.int .i64 cp, .int .i64 ca, .int .i64 cf]) (by simp [results, Try.results21, go_sem, c0, c1, c2]) rfl ⟨?_, HB5.out⟩
      rw [HCF.out]; rfl
end Go.Proofs.Ytjohdkcgodaeiaa
