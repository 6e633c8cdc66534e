/- push, whole: the program's and the specification's; layer 32 (forms). Push of layer 32 (forms), the program's; sizes of pushed formulas. Deep and Plain of layer 32 (forms). Plain of layer 32 (forms); the sizes agree. The calls of lives; layer 32 (forms). lives of layer 32 (forms). The specification's terms, left and Many; layer 32 (forms). -/
import Derived.Test.YtnjkphopklbogaaMg
import Derived.Test.YtnjkphopklbogaaMf
import Derived.Test.YtnjkphopklbogaaMd
import Derived.Test.YtnjkphopklbogaaMc
import Derived.Test.YtnjkphopklbogaaMa
namespace Go.Proofs.Ytnjkphopklbogaa
open Go.RowKit

theorem fk_two (t : Fx) (h : (t.ks.length : Int) = fk t.op) (ho : t.op = 5 ∨ t.op = 9 ∨ t.op = 13) : t.ks.length = 2 := by
  have e5 : fk 5 = 2 := rfl
  have e9 : fk 9 = 2 := rfl
  have e13 : fk 13 = 2 := rfl
  rcases ho with e | e | e <;> rw [e] at h <;> omega
theorem fk_few (t : Fx) (h : (t.ks.length : Int) = fk t.op) : t.ks.length ≤ 2 := by
  unfold fk at h
  split at h
  · omega
  · split at h <;> omega
theorem pr_push : ∀ (N : Nat) (t : Fx), t.sz ≤ N → okF t → ∀ (B : Nat) (E A : Option Addr) (dd c : Nat) (b : Bool) (w : World), B ≤ w.heap.size → Fm B w t E A → Calls Try.prog 45 #[fV t E dd A c, .bool b] w (PuP B (psF t b) w) := by
  intro N
  induction N with
  | zero => intro t h; have := fsz_pos t; omega
  | succ N ih =>
    intro t ht hok B E A dd c b w hB hR
    have hh := (okF_eq t).1 hok
    have hN := okN hh.1
    have hI : PuI 45 B t := fun i hi ea ec ka kc b w hB hR => ih (fkd t.ks i) (by have := fszL_mem (fkd_mem hi); have := fsz_eq t; have := sz_pos t.e; omega) (okL_mem hh.2 _ (fkd_mem hi)) B ea ka ec kc b w hB hR
    by_cases h1 : t.op = 1
    · exact pr_push1 B t E A dd c b w h1 hB hR
    by_cases h2 : t.op = 2
    · exact pr_push2 B t E A dd c b w h2 (by have h := hN.kids; rw [h2] at h; have e : fk 2 = 1 := rfl; omega) hB hR hI
    by_cases h5 : t.op = 5
    · exact pr_push5 B t E A dd c b w h5 (fk_two t hN.kids (.inl h5)) hB hR hI
    by_cases h9 : t.op = 9
    · exact pr_push9 B t E A dd c b w h9 (fk_two t hN.kids (.inr (.inl h9))) hB hR hI
    by_cases h13 : t.op = 13
    · exact pr_push13 B t E A dd c b w h13 (fk_two t hN.kids (.inr (.inr h13))) hB hR hI
    exact pr_pushN B t E A dd c b w ⟨h1, h2, h5, h9, h13⟩ (by have := fk_few t hN.kids; omega) hB hR hI
theorem rf_push : ∀ (N : Nat) (t : Fx), t.sz ≤ N → okF t → ∀ (B : Nat) (E A : Option Addr) (dd c : Nat) (b : Bool) (w : World), B ≤ w.heap.size → Fm B w t E A → Calls Try.prog 47 #[fV t E dd A c, .bool b] w (PuP B (psF t b) w) := by
  intro N
  induction N with
  | zero => intro t h; have := fsz_pos t; omega
  | succ N ih =>
    intro t ht hok B E A dd c b w hB hR
    have hh := (okF_eq t).1 hok
    have hN := okN hh.1
    have hI : PuI 47 B t := fun i hi ea ec ka kc b w hB hR => ih (fkd t.ks i) (by have := fszL_mem (fkd_mem hi); have := fsz_eq t; have := sz_pos t.e; omega) (okL_mem hh.2 _ (fkd_mem hi)) B ea ka ec kc b w hB hR
    by_cases h1 : t.op = 1
    · exact rf_push1 B t E A dd c b w h1 hB hR
    by_cases h2 : t.op = 2
    · exact rf_push2 B t E A dd c b w h2 (by have h := hN.kids; rw [h2] at h; have e : fk 2 = 1 := rfl; omega) hB hR hI
    by_cases h5 : t.op = 5
    · cases b
      · exact rf_push5f B t E A dd c w h5 (fk_two t hN.kids (.inl h5)) hB hR hI
      · exact rf_push5t B t E A dd c w h5 (fk_two t hN.kids (.inl h5)) hB hR hI
    by_cases h9 : t.op = 9
    · exact rf_push9 B t E A dd c b w h9 (fk_two t hN.kids (.inr (.inl h9))) hB hR hI
    by_cases h13 : t.op = 13
    · exact rf_push13 B t E A dd c b w h13 (fk_two t hN.kids (.inr (.inr h13))) hB hR hI
    have hl := hN.lo
    have hh := hN.hi
    cases b
    · exact rf_pushNf B t E A dd c w (by omega) (by have := fk_few t hN.kids; omega) hB hR hI
    · exact rf_pushNt B t E A dd c w (by omega) (by have := fk_few t hN.kids; omega) hB hR hI
end Go.Proofs.Ytnjkphopklbogaa
namespace Go.Proofs.Ytnjkphopklbogaa
open Go.RowKit

theorem psL_map_sz {ks : List Fx} (ih : ∀ u, u ∈ ks → ∀ b, (psF u b).sz ≤ 4 * u.sz) (b : Bool) : fszL (ks.map (fun u => psF u b)) ≤ 4 * fszL ks := by
  induction ks with
  | nil => exact Nat.zero_le _
  | cons a r h =>
    have h1 := ih a (List.mem_cons_self ..) b
    have h2 := h (fun u hu => ih u (List.mem_cons_of_mem _ hu))
    have e1 : fszL ((a :: r).map (fun u => psF u b)) = (psF a b).sz + fszL (r.map (fun u => psF u b)) := rfl
    have e2 : fszL (a :: r) = a.sz + fszL r := rfl
    omega
theorem apF_sz {ks : List Fx} (ih : ∀ u, u ∈ ks → ∀ b, (psF u b).sz ≤ 4 * u.sz) (b0 b1 : Bool) : (apF (psL ks) 0 b0).sz + (apF (psL ks) 1 b1).sz ≤ 4 * fszL ks + 2 ∧ (apF (psL ks) 0 b0).sz ≤ 4 * fszL ks + 1 := by
  have e0 : fx0.sz = 1 := rfl
  match ks, ih with
  | [], _ =>
    have a0 : apF (psL []) 0 b0 = fx0 := rfl
    have a1 : apF (psL []) 1 b1 = fx0 := rfl
    rw [a0, a1, e0]
    omega
  | [x], ih =>
    have a0 : apF (psL [x]) 0 b0 = psF x b0 := rfl
    have a1 : apF (psL [x]) 1 b1 = fx0 := rfl
    have h := ih x (List.mem_cons_self ..) b0
    have e2 : fszL [x] = x.sz + 0 := rfl
    rw [a0, a1, e0]
    omega
  | x :: y :: r, ih =>
    have a0 : apF (psL (x :: y :: r)) 0 b0 = psF x b0 := rfl
    have a1 : apF (psL (x :: y :: r)) 1 b1 = psF y b1 := rfl
    have h := ih x (List.mem_cons_self ..) b0
    have h2 := ih y (List.mem_cons_of_mem _ (List.mem_cons_self ..)) b1
    have e2 : fszL (x :: y :: r) = x.sz + (y.sz + fszL r) := rfl
    rw [a0, a1]
    omega
theorem psF_sz : ∀ (n : Nat) (t : Fx), t.sz ≤ n → ∀ b, (psF t b).sz ≤ 4 * t.sz := by
  intro n
  induction n with
  | zero => intro t h; have := fsz_pos t; omega
  | succ n ih =>
    intro t ht b
    have he := sz_pos t.e
    have hz := fsz_eq t
    have ih2 : ∀ u, u ∈ t.ks → ∀ b, (psF u b).sz ≤ 4 * u.sz := fun u hu b => ih u (by have := fszL_mem hu; omega) b
    have e0 : ex0.sz = 1 := rfl
    rw [psF_eq]
    split
    · split
      · have e1 : (Fx.mk 1 (notE t.e) []).sz = (1 + (t.e.sz + 0)) + 0 := rfl
        omega
      · omega
    · split
      · have := (apF_sz ih2 (!b) b).2
        omega
      · split
        · have h := (apF_sz ih2 (!b) b).1
          have e1 : (Fx.mk (dualF 4 b) ex0 [apF (psL t.ks) 0 (!b), apF (psL t.ks) 1 b]).sz = 1 + ((apF (psL t.ks) 0 (!b)).sz + ((apF (psL t.ks) 1 b).sz + 0)) := rfl
          omega
        · split
          · have h := (apF_sz ih2 false false).1
            split
            · have e1 : (Fx.mk 2 ex0 [.mk t.op ex0 [apF (psL t.ks) 0 false, apF (psL t.ks) 1 false]]).sz = 1 + ((1 + ((apF (psL t.ks) 0 false).sz + ((apF (psL t.ks) 1 false).sz + 0))) + 0) := rfl
              omega
            · have e1 : (Fx.mk t.op ex0 [apF (psL t.ks) 0 false, apF (psL t.ks) 1 false]).sz = 1 + ((apF (psL t.ks) 0 false).sz + ((apF (psL t.ks) 1 false).sz + 0)) := rfl
              omega
          · have h := psL_map_sz ih2 b
            have e1 : (Fx.mk (dualF t.op b) ex0 (t.ks.map (fun u => psF u b))).sz = 1 + fszL (t.ks.map (fun u => psF u b)) := rfl
            omega
/-- What Push answers. -/
def pshF (t : Fx) (b : Bool) : Fx := if chkF t = 0 then psF t b else t
theorem pshF_sz (t : Fx) (b : Bool) : (pshF t b).sz ≤ 4 * t.sz := by
  unfold pshF
  split
  · exact psF_sz t.sz t (Nat.le_refl _) b
  · omega

set_option maxRecDepth 100000 in
set_option maxHeartbeats 8000000 in
theorem pr_PushT (t : Fx) (E A : Option Addr) (dd c : Nat) (b : Bool) (w : World) (hv : chkF t = 0) (hs : t.sz ≤ 10000000) (hR : Fm w.heap.size w t E A) :
    Calls Try.prog 21 #[fV t E dd A c, .bool b] w (FmP (pshF t b) w) := by
  obtain ⟨W0, hW0⟩ : ∃ W, (w.alloc (.cells (fC t E dd A c) 27)).alloc (.cells fZ 27) = W := ⟨_, rfl⟩
  have hP := PuW.mk' (dd := dd) (c := c) (Nat.le_refl _) hR
  rw [hW0] at hP
  have HCK : Hid (Calls Try.prog 9 #[fV t E dd A c] W0 fun e w' => e = .returned (.int .i64 (chkF t)) ∧ Below W0.heap.size W0 w') := Lib.hid (pr_fCheck t _ _ _ _ W0 (by omega) (hR.step hP.al))
  have HPU : Hid (∀ wx, Below W0.heap.size W0 wx → Calls Try.prog 45 #[fV t E dd A c, .bool b] wx (PuP w.heap.size (psF t b) wx)) := Lib.hid (fun wx hx => pr_push t.sz t (Nat.le_refl _) (ok_chk hv) w.heap.size E A dd c b wx (by have := hP.al.size; have := hx.size; omega) (hP.rp.under (hx.mono hP.al.size)))
  obtain ⟨y, hy⟩ : ∃ y, psF t b = y := ⟨_, rfl⟩
  have hsy : y.sz ≤ 100000000 := by rw [← hy]; have := psF_sz t.sz t (Nat.le_refl _) b; omega
  rw [hy] at HPU
  rw [show pshF t b = y from (if_pos hv).trans hy]
  have HPW := Lib.hid hP
  have HWW := Lib.hid hW0
  have s0 := hP.b0.cell 0
  have s1 := hP.b0.cell 1
  have s2 := hP.b0.cell 2
  have s3 := hP.b0.cell 3
  have s4 := hP.b0.cell 4
  have s5 := hP.b0.cell 5
  have g0 : (chkF t == 0) = true := by simp [hv]
  generalize chkF t = z at *
  clear hy hv hP hW0 hR hs
  go_enter Try.func21, Try.ntmps21
  go_upto_region 1 with (fail)
  rw [HWW.out]
  go_upto_region 3 with (first
    | (go_at_call 45; have _ := HB1; (with_reducible refine (HPU.out _ HB1.out).mono ?_); rintro e w2 ⟨E2, d2, A2, c2, rfl, hF2, hb2⟩; have hb02 := bt HB1.out hb2; have k2 := HPW.out.b0.below hb02 HPW.out.b0.lt; have p0 := k2.cell 0; have p1 := k2.cell 1; have p2 := k2.cell 2; have p3 := k2.cell 3; have p4 := k2.cell 4; have p5 := k2.cell 5; have f0 := k2.frozen 0; have f1 := k2.frozen 1; have f2 := k2.frozen 2; have f3 := k2.frozen 3; have f4 := k2.frozen 4; have f5 := k2.frozen 5; have kl := k2.lt; have HK2 := Lib.hid k2; have HB02 := Lib.hid hb02; have HF2 := Lib.hid hF2; have HS2 := Lib.hid hb2.size; clear k2 hb02 hF2 hb2)
    | (go_at_call 9; (with_reducible refine HCK.out.mono ?_); rintro e w1 ⟨rfl, hb1⟩; have k1 := HPW.out.b0.below hb1 HPW.out.b0.lt; have r0 := k1.cell 0; have r1 := k1.cell 1; have r2 := k1.cell 2; have r3 := k1.cell 3; have r4 := k1.cell 4; have r5 := k1.cell 5; have HB1 := Lib.hid hb1; clear hb1 k1))
  obtain ⟨W3, hW3⟩ : ∃ W, Z6 w2 w.heap.size (.int .i64 y.op) (.int .i64 y.e.op) (.int .i64 y.e.vr) (.string y.e.nm) (.slice E2 y.e.ks.length d2) (.slice A2 y.ks.length c2) = W := ⟨_, rfl⟩
  unfold Z6 at hW3
  rw [hW3]
  have hz0 := HPW.out.sz
  have hs1 := HB1.out.size
  have hs2 := HS2.out
  have hsz3 : W3.heap.size = w2.heap.size := by rw [← hW3]; exact set6_size _ _ _ _ _ _ _ _ _ _ _ _ _ _
  have hblk3 : ∀ x, x ≠ w.heap.size → W3.heap[x]? = w2.heap[x]? := fun x hx => by rw [← hW3]; exact set6_blk _ _ _ _ _ _ _ hx
  have HG0 : Hid (Blk W3 w.heap.size 27 (fC y E2 d2 A2 c2)) := Lib.hid (by rw [← hW3]; exact (((((HK2.out.set_ 0 _).set_ 1 _).set_ 2 _).set_ 3 _).set_ 4 _).set_ 5 _)
  have HZ3 : Hid (Blk W3 (w.heap.size + 1) 27 fZ) := Lib.hid ((hblk3 _ (by omega)).trans (HPW.out.b1.below HB02.out HPW.out.b1.lt))
  have HB3 : Hid (Below w.heap.size w W3) := Lib.hid (by rw [← hW3]; exact z6_below _ _ _ _ _ _ (HPW.out.al.trans (HB02.out.mono HPW.out.al.size)) (Nat.le_refl _))
  have HY : Hid (FmS (Lb (fun x => x ≠ w.heap.size + 1) W3.heap.size) W3 y E2 A2) := Lib.hid ((HF2.out.kept (fun x hx => hblk3 x (by rcases hx with h | h <;> omega))).mono (fun x hx => ⟨by rcases hx with h | h <;> omega, by rcases hx with h | h <;> omega⟩))
  have HS3 : Hid (w.heap.size + 1 + 1 ≤ W3.heap.size) := Lib.hid (by omega)
  clear hW3 hblk3 hsz3 hz0 hs1 hs2 p0 p1 p2 p3 p4 p5 f0 f1 f2 f3 f4 f5 kl HK2 r0 r1 r2 r3 r4 r5 s0 s1 s2 s3 s4 s5 HPU HCK
  obtain ⟨W4, hW4⟩ : ∃ W, W3.alloc (.cells #[.int .i64 262144] 3) = W := ⟨_, rfl⟩
  have hb34 : Below W3.heap.size W3 W4 := by rw [← hW4]; exact bal _ _
  have hz4 : W4.heap.size = W3.heap.size + 1 := by rw [← hW4]; simp
  have HDT : Hid (Calls Try.prog 46 #[fV y E2 d2 A2 c2, .pointer (some ⟨W3.heap.size, 0, none⟩)] W4 (DetF (fun x => x ≠ w.heap.size + 1) W3.heap.size y W4)) := Lib.hid (pr_det y.sz y (Nat.le_refl _) hsy W3.heap.size E2 d2 A2 c2 262144 W4 (by rw [← hW4]; exact Blk.new _ _ _) (HY.out.lb hb34))
  have HFIN : Hid (∀ (w5 : World) E5 A5 (k5 : Int) v0 v1 v2 v3 v4 v5, FmS (Od (fun x => x ≠ w.heap.size + 1) W3.heap.size W4.heap.size w5) w5 y E5 A5 → Lq W3.heap.size W4 w5 → Blk w5 (w.heap.size + 1) 27 fZ ∧ Fm (Z6 w5 (w.heap.size + 1) v0 v1 v2 v3 v4 v5).heap.size (Z6 w5 (w.heap.size + 1) v0 v1 v2 v3 v4 v5) y E5 A5 ∧ Below w.heap.size w (Z6 w5 (w.heap.size + 1) v0 v1 v2 v3 v4 v5)) := Lib.hid (fun w5 E5 A5 k5 v0 v1 v2 v3 v4 v5 hF hL => by
    have hs3 := HS3.out
    have hL5 := hL.size
    have z5 : Blk w5 (w.heap.size + 1) 27 fZ := (HZ3.out.below hb34 HZ3.out.lt).frm hL (by omega)
    have hb5 : Below w.heap.size w w5 := (HB3.out.trans (hb34.mono (by omega))).trans (hL.below2 (fun k hk e => by omega) (by omega))
    have hblk : ∀ x, x ≠ w.heap.size + 1 → (Z6 w5 (w.heap.size + 1) v0 v1 v2 v3 v4 v5).heap[x]? = w5.heap[x]? := fun x hx => set6_blk _ _ _ _ _ _ _ hx
    have hsz : (Z6 w5 (w.heap.size + 1) v0 v1 v2 v3 v4 v5).heap.size = w5.heap.size := set6_size _ _ _ _ _ _ _ _ _ _ _ _ _ _
    refine ⟨z5, (hF.kept (fun x hx => hblk x (by rcases hx with h | h <;> omega))).toR (fun x hx => by rw [hsz]; rcases hx with h | h <;> omega), z6_below _ _ _ _ _ _ hb5 (by omega)⟩)
  have k4 := HG0.out.below hb34 HG0.out.lt
  have s0 := k4.cell 0
  have s1 := k4.cell 1
  have s2 := k4.cell 2
  have s3 := k4.cell 3
  have s4 := k4.cell 4
  have s5 := k4.cell 5
  have HW4 := Lib.hid hW4
  clear hW4 hb34 hz4 k4 hsy
  go_upto_region 4 with (fail)
  rw [HW4.out]
  go_wp2_with (go_at_call 46; (with_reducible refine HDT.out.mono ?_); rintro e w5 ⟨E5, d5, A5, c5, k5, rfl, _, hF5, hL5⟩; have hq := fun v0 v1 v2 v3 v4 v5 => HFIN.out w5 E5 A5 k5 v0 v1 v2 v3 v4 v5 hF5 hL5; have zz := (hq undef undef undef undef undef undef).1; have z0 := zz.cell 0; have z1 := zz.cell 1; have z2 := zz.cell 2; have z3 := zz.cell 3; have z4 := zz.cell 4; have z5 := zz.cell 5; have q0 := zz.frozen 0; have q1 := zz.frozen 1; have q2 := zz.frozen 2; have q3 := zz.frozen 3; have q4 := zz.frozen 4; have q5 := zz.frozen 5; have zl := zz.lt; have HZZ := Lib.hid zz; have HQ := Lib.hid hq; clear hq zz hF5 hL5)
  refine bodyPost_ret (res_fx rfl _ _ (w.heap.size + 1) _ _ _ _ _ _ rfl (z6_ret _ _ _ _ _ _ HZZ.out)) rfl ?_
  exact ⟨E5, d5, A5, c5, rfl, (HQ.out _ _ _ _ _ _).2.1, (HQ.out _ _ _ _ _ _).2.2⟩

set_option maxRecDepth 100000 in
set_option maxHeartbeats 8000000 in
theorem pr_PushF (t : Fx) (E2 A2 : Option Addr) (d2 c2 : Nat) (b : Bool) (w : World) (hv : chkF t ≠ 0) (hs : t.sz ≤ 10000000) (hR : Fm w.heap.size w t E2 A2) :
    Calls Try.prog 21 #[fV t E2 d2 A2 c2, .bool b] w (FmP (pshF t b) w) := by
  obtain ⟨W0, hW0⟩ : ∃ W, (w.alloc (.cells (fC t E2 d2 A2 c2) 27)).alloc (.cells fZ 27) = W := ⟨_, rfl⟩
  have hP := PuW.mk' (dd := d2) (c := c2) (Nat.le_refl _) hR
  rw [hW0] at hP
  have HCK : Hid (Calls Try.prog 9 #[fV t E2 d2 A2 c2] W0 fun e w' => e = .returned (.int .i64 (chkF t)) ∧ Below W0.heap.size W0 w') := Lib.hid (pr_fCheck t _ _ _ _ W0 (by omega) (hR.step hP.al))
  have hsy : t.sz ≤ 100000000 := by omega
  rw [show pshF t b = t from if_neg hv]
  have HPW := Lib.hid hP
  have HWW := Lib.hid hW0
  have s0 := hP.b0.cell 0
  have s1 := hP.b0.cell 1
  have s2 := hP.b0.cell 2
  have s3 := hP.b0.cell 3
  have s4 := hP.b0.cell 4
  have s5 := hP.b0.cell 5
  have g0 : (chkF t == 0) = false := by simp [hv]
  generalize chkF t = z at *
  clear hv hP hW0 hR hs
  go_enter Try.func21, Try.ntmps21
  go_upto_region 1 with (fail)
  rw [HWW.out]
  go_upto_region 3 with (go_at_call 9; (with_reducible refine HCK.out.mono ?_); rintro e W3 ⟨rfl, hb1⟩; have HB1 := Lib.hid hb1; clear hb1)
  have hz0 := HPW.out.sz
  have hs1 := HB1.out.size
  have HG0 : Hid (Blk W3 w.heap.size 27 (fC t E2 d2 A2 c2)) := Lib.hid (HPW.out.b0.below HB1.out HPW.out.b0.lt)
  have HZ3 : Hid (Blk W3 (w.heap.size + 1) 27 fZ) := Lib.hid (HPW.out.b1.below HB1.out HPW.out.b1.lt)
  have HB3 : Hid (Below w.heap.size w W3) := Lib.hid (HPW.out.al.trans (HB1.out.mono HPW.out.al.size))
  have HY : Hid (FmS (Lb (fun x => x ≠ w.heap.size + 1) W3.heap.size) W3 t E2 A2) := Lib.hid ((HPW.out.rp.under (HB1.out.mono (by omega))).toS.mono (fun x hx => ⟨by omega, by omega⟩))
  have HS3 : Hid (w.heap.size + 1 + 1 ≤ W3.heap.size) := Lib.hid (by omega)
  clear hz0 hs1 s0 s1 s2 s3 s4 s5 HCK
  obtain ⟨W4, hW4⟩ : ∃ W, W3.alloc (.cells #[.int .i64 262144] 3) = W := ⟨_, rfl⟩
  have hb34 : Below W3.heap.size W3 W4 := by rw [← hW4]; exact bal _ _
  have hz4 : W4.heap.size = W3.heap.size + 1 := by rw [← hW4]; simp
  have HDT : Hid (Calls Try.prog 46 #[fV t E2 d2 A2 c2, .pointer (some ⟨W3.heap.size, 0, none⟩)] W4 (DetF (fun x => x ≠ w.heap.size + 1) W3.heap.size t W4)) := Lib.hid (pr_det t.sz t (Nat.le_refl _) hsy W3.heap.size E2 d2 A2 c2 262144 W4 (by rw [← hW4]; exact Blk.new _ _ _) (HY.out.lb hb34))
  have HFIN : Hid (∀ (w5 : World) E5 A5 (k5 : Int) v0 v1 v2 v3 v4 v5, FmS (Od (fun x => x ≠ w.heap.size + 1) W3.heap.size W4.heap.size w5) w5 t E5 A5 → Lq W3.heap.size W4 w5 → Blk w5 (w.heap.size + 1) 27 fZ ∧ Fm (Z6 w5 (w.heap.size + 1) v0 v1 v2 v3 v4 v5).heap.size (Z6 w5 (w.heap.size + 1) v0 v1 v2 v3 v4 v5) t E5 A5 ∧ Below w.heap.size w (Z6 w5 (w.heap.size + 1) v0 v1 v2 v3 v4 v5)) := Lib.hid (fun w5 E5 A5 k5 v0 v1 v2 v3 v4 v5 hF hL => by
    have hs3 := HS3.out
    have hL5 := hL.size
    have z5 : Blk w5 (w.heap.size + 1) 27 fZ := (HZ3.out.below hb34 HZ3.out.lt).frm hL (by omega)
    have hb5 : Below w.heap.size w w5 := (HB3.out.trans (hb34.mono (by omega))).trans (hL.below2 (fun k hk e => by omega) (by omega))
    have hblk : ∀ x, x ≠ w.heap.size + 1 → (Z6 w5 (w.heap.size + 1) v0 v1 v2 v3 v4 v5).heap[x]? = w5.heap[x]? := fun x hx => set6_blk _ _ _ _ _ _ _ hx
    have hsz : (Z6 w5 (w.heap.size + 1) v0 v1 v2 v3 v4 v5).heap.size = w5.heap.size := set6_size _ _ _ _ _ _ _ _ _ _ _ _ _ _
    refine ⟨z5, (hF.kept (fun x hx => hblk x (by rcases hx with h | h <;> omega))).toR (fun x hx => by rw [hsz]; rcases hx with h | h <;> omega), z6_below _ _ _ _ _ _ hb5 (by omega)⟩)
  have k4 := HG0.out.below hb34 HG0.out.lt
  have s0 := k4.cell 0
  have s1 := k4.cell 1
  have s2 := k4.cell 2
  have s3 := k4.cell 3
  have s4 := k4.cell 4
  have s5 := k4.cell 5
  have HW4 := Lib.hid hW4
  clear hW4 hb34 hz4 k4 hsy
  go_upto_region 4 with (fail)
  rw [HW4.out]
  go_wp2_with (go_at_call 46; (with_reducible refine HDT.out.mono ?_); rintro e w5 ⟨E5, d5, A5, c5, k5, rfl, _, hF5, hL5⟩; have hq := fun v0 v1 v2 v3 v4 v5 => HFIN.out w5 E5 A5 k5 v0 v1 v2 v3 v4 v5 hF5 hL5; have zz := (hq undef undef undef undef undef undef).1; have z0 := zz.cell 0; have z1 := zz.cell 1; have z2 := zz.cell 2; have z3 := zz.cell 3; have z4 := zz.cell 4; have z5 := zz.cell 5; have q0 := zz.frozen 0; have q1 := zz.frozen 1; have q2 := zz.frozen 2; have q3 := zz.frozen 3; have q4 := zz.frozen 4; have q5 := zz.frozen 5; have zl := zz.lt; have HZZ := Lib.hid zz; have HQ := Lib.hid hq; clear hq zz hF5 hL5)
  refine bodyPost_ret (res_fx rfl _ _ (w.heap.size + 1) _ _ _ _ _ _ rfl (z6_ret _ _ _ _ _ _ HZZ.out)) rfl ?_
  exact ⟨E5, d5, A5, c5, rfl, (HQ.out _ _ _ _ _ _).2.1, (HQ.out _ _ _ _ _ _).2.2⟩

theorem pr_Push (t : Fx) (E A : Option Addr) (dd c : Nat) (b : Bool) (w : World) (hs : t.sz ≤ 10000000) (hR : Fm w.heap.size w t E A) : Calls Try.prog 21 #[fV t E dd A c, .bool b] w (FmP (pshF t b) w) := by
  by_cases hv : chkF t = 0
  · exact pr_PushT t E A dd c b w hv hs hR
  · exact pr_PushF t E A dd c b w hv hs hR
end Go.Proofs.Ytnjkphopklbogaa
namespace Go.Proofs.Ytnjkphopklbogaa
open Go.RowKit
open Go.Shelf

theorem dps_len (t : Fx) : (dpsF t).length ≤ t.sz := by
  unfold dpsF
  split
  · simp
  · exact dl_len t 1
set_option maxRecDepth 100000 in
set_option maxHeartbeats 4000000 in
theorem pr_fDeep (t : Fx) (E A : Option Addr) (dd c : Nat) (w : World) (hs : t.sz ≤ 100000000) (hR : Fm w.heap.size w t E A) :
    Calls Try.prog 16 #[fV t E dd A c] w fun e w' => e = .returned (.int .i64 (Lib.maxOf (dpsF t ++ [0]))) ∧ Below w.heap.size w w' := by
  have HAL : Hid (∀ o, Below w.heap.size w (w.alloc o)) := Lib.hid (fun o => bal _ _)
  have HC : Hid (Calls Try.prog 40 #[fV t E dd A c] (w.alloc (.cells (fC t E dd A c) 27)) (ColI (w.alloc (.cells (fC t E dd A c) 27)) (dpsF t))) := Lib.hid (pr_depths t E A dd c _ hs (hR.step (bal _ _)))
  obtain ⟨p0, p1, p2, p3, p4, p5⟩ := fal t E A dd c w
  have hlen := dps_len t
  have hl : (dpsF t).length ≤ 100000000 := by omega
  clear hlen hR hs
  generalize dpsF t = D at *
  obtain ⟨W0, hW0⟩ : ∃ W0, w.alloc (.cells (fC t E dd A c) 27) = W0 := ⟨_, rfl⟩
  have hb0 : Below w.heap.size w W0 := by rw [← hW0]; exact bal _ _
  rw [hW0] at HC p0 p1 p2 p3 p4 p5
  have HB0 := Lib.hid hb0
  have HW0 := Lib.hid hW0
  have HM : Hid (∀ (w5 : World) A5 c5, w5.ownsRow 0 3 1 (.slice A5 (D.length + 1) c5) (D.length + 1) ((D ++ [0]).map (Value.int .i64)) → Calls Try.prog 41 #[.slice A5 (D.length + 1) c5] w5 fun e w' => e = .returned (.int .i64 (Lib.maxOf (D ++ [0]))) ∧ w5 = w') := Lib.hid (fun w5 A5 c5 ho => by
    rcases ho.2 with ⟨h, _⟩ | ⟨g, cap, cur, h, _, hg, _, _, hsz, htk⟩
    · simp at h
    · cases h
      have hcc : ∀ j, j < (D ++ [0]).length → w5.cell? ⟨g, 0 + j, none⟩ = some (.int .i64 ((D ++ [0]).getD j 0)) := fun j hj => by
        have h2 := World.ownsRow.cellAt ho j (by rw [Nat.mul_one]; simpa using hj)
        rw [Nat.zero_add, h2]
        simp only [List.getElem?_map, List.getElem?_eq_getElem hj, Option.map_some, List.getD, Option.getD_some]
      have h3 := Any.slices_Max_int Try.laysMax g 0 (D.length + 1) c5 (D ++ [0]) w5 (by omega) (by simp) (by omega) hcc
      rw [List.take_of_length_le (by simp)] at h3
      exact h3.mono (fun e w' ⟨h4, h5⟩ => ⟨h4, h5.symm⟩))
  obtain ⟨i0, hi0, hz0, hz1, hz2⟩ := info_parts info3F
  clear hb0 hW0
  go_enter Try.func16, Try.ntmps16
  go_upto_region 1 with (fail)
  rw [HW0.out]
  go_wp2_with (first
    | (at_builtin; have _ := HB1; (refine wpList_append_own_at _ rfl (.tmp 4) (.tmp 5) 58 rfl 0 3 i0 _ 1 8 Try.underlying58 hi0 hz0 hz1 hz2 rfl (by decide) _ D.length (D.map (Value.int .i64)) rfl (own_keepG HO1.out (bal _ _)) ⟨w1.heap.size, 0, none⟩ 1 1 [Value.int .i64 0] rfl rfl (cell_one_new _ _ _) (by simp [Value.oneCell']) (by unfold maxLen; omega) (by omega) (Nat.zero_le _) ?_); intro v5 w5 hO5 hg5 _ hat5; obtain ⟨A5, c5, rfl⟩ := owns_slice hO5; have HO5 : Hid (w5.ownsRow 0 3 1 (.slice A5 (D.length + 1) c5) (D.length + 1) ((D ++ [0]).map (Value.int .i64))) := Lib.hid (by rw [List.map_append]; exact hO5); have HB5 : Hid (Below w.heap.size w w5) := Lib.hid ((HB1.out.alloc HB1.out.size _).grown hg5 (by have := HB1.out.size; simp; omega) (fun k e => (HK1.out k e))); clear hO5 hg5 hat5)
    | (go_at_call 41; have _ := HO5; (with_reducible refine (HM.out _ _ _ HO5.out).mono ?_); rintro e w6 ⟨rfl, rfl⟩)
    | (go_at_call 40; (with_reducible refine HC.out.mono ?_); rintro e w1 ⟨A1, c1, rfl, ho1, hb1⟩; have HO1 := Lib.hid (own_more (B' := 0) ho1 (fun _ _ => Nat.zero_le _)); have HK1 : Hid (∀ k, (Value.slice A1 D.length c1).ownBlock = some k → w.heap.size ≤ k) := Lib.hid (fun k hk => Nat.le_trans HB0.out.size (own_lt ho1 hk).1); have HB1 := Lib.hid (HB0.out.trans (hb1.mono HB0.out.size)); clear hb1 ho1))
  go_ret
  exact ⟨rfl, HB5.out⟩
/-! ### the specification's deep -/
mutual
def dpF : Fx → Int | .mk _ _ ks => dpL ks 0 + 1
def dpL : List Fx → Int → Int
  | [], m => m
  | t :: r, m => dpL r (if m < dpF t then dpF t else m)
end
theorem dpF_eq (t : Fx) : dpF t = dpL t.ks 0 + 1 := by cases t; rfl
theorem dpL_step {l : List Fx} {k : Nat} (h : k < l.length) (m : Int) : dpL (l.drop k) m = dpL (l.drop (k + 1)) (if m < dpF (fkd l k) then dpF (fkd l k) else m) := by rw [fkd_drop h]; rfl
mutual
theorem dpF_bd : ∀ t : Fx, 1 ≤ dpF t ∧ dpF t ≤ t.sz
  | .mk o e ks => by
    have h := dpL_bd ks 0 (by decide)
    have hz : (Fx.mk o e ks).sz = e.sz + fszL ks := rfl
    have := sz_pos e
    show 1 ≤ dpL ks 0 + 1 ∧ dpL ks 0 + 1 ≤ _
    omega
theorem dpL_bd : ∀ (l : List Fx) (m : Int), 0 ≤ m → m ≤ dpL l m ∧ dpL l m ≤ m + fszL l
  | [], m, _ => by show m ≤ m ∧ m ≤ m + ((0 : Nat) : Int); omega
  | t :: r, m, h => by
    have h1 := dpF_bd t
    have hz : fszL (t :: r) = t.sz + fszL r := rfl
    show m ≤ dpL r (if m < dpF t then dpF t else m) ∧ dpL r (if m < dpF t then dpF t else m) ≤ _
    split
    · have h2 := dpL_bd r (dpF t) (by omega)
      omega
    · have h2 := dpL_bd r m h
      omega
end
mutual
theorem max_dl : ∀ (t : Fx) (d : Int) (m : Int), (dl t d).foldl max m = max m (d + dpF t - 1)
  | .mk o e ks, d, m => by
    have h := max_dlL ks (d + 1) (max m d)
    have hb := dpL_bd ks 0 (by decide)
    show ((d :: dlL ks (d + 1)).foldl max m) = max m (d + (dpL ks 0 + 1) - 1)
    rw [List.foldl_cons, h 0 (by omega) (by omega)]
    omega
theorem max_dlL : ∀ (l : List Fx) (d : Int) (m : Int), ∀ b : Int, 0 ≤ b → d + b - 1 ≤ m → (dlL l d).foldl max m = max m (d + dpL l b - 1)
  | [], d, m, b, _, hb => by
    show m = max m (d + b - 1)
    omega
  | t :: r, d, m, b, hb0, hb => by
    have h1 := max_dl t d m
    have hd := dpF_bd t
    show ((dl t d ++ dlL r d).foldl max m) = max m (d + dpL r (if b < dpF t then dpF t else b) - 1)
    rw [List.foldl_append, h1]
    split
    · rw [max_dlL r d (max m (d + dpF t - 1)) (dpF t) (by omega) (by omega)]
      have := dpL_bd r (dpF t) (by omega)
      omega
    · rw [max_dlL r d (max m (d + dpF t - 1)) b hb0 (by omega)]
      have := dpL_bd r b hb0
      omega
end
def deepF (t : Fx) : Int := if chkF t ≠ 0 then 0 else dpF t
theorem deep_agree (t : Fx) : Lib.maxOf (dpsF t ++ [0]) = deepF t := by
  unfold dpsF deepF Lib.maxOf
  split
  · rfl
  · have hb := dpF_bd t
    have hh : (dl t 1 ++ [0]).headD 0 = 1 := by cases t; rfl
    rw [hh, List.foldl_append, max_dl t 1 1]
    show max (max 1 (1 + dpF t - 1)) 0 = dpF t
    omega
set_option maxRecDepth 100000 in
set_option maxHeartbeats 8000000 in
theorem rf_deep : ∀ (n : Nat) t, t.sz ≤ n → n ≤ 100000000 → ∀ E dd A c w, Fm w.heap.size w t E A →
    Calls Try.prog 42 #[fV t E dd A c] w fun e w' => e = .returned (.int .i64 (dpF t)) ∧ Below w.heap.size w w' := by
  intro n
  induction n with
  | zero => intro t h; have := fsz_pos t; omega
  | succ n ih =>
    intro t ht hnn E dd A c w hR
    have HIH := Lib.hid ih
    have HR := Lib.hid hR
    have hkb : t.ks.length ≤ 1000000000 := by have := fkl_sz t; omega
    have hdb := dpF_bd t
    obtain ⟨R, hRR⟩ : ∃ R, dpF t = R := ⟨_, rfl⟩
    rw [hRR] at hdb ⊢
    rw [dpF_eq] at hRR
    have HX0 : Hid (dpL (t.ks.drop 0) 0 + 1 = R) := Lib.hid hRR
    have HRB : Hid (1 ≤ R ∧ R ≤ 100000000) := Lib.hid (by omega)
    have HAL : Hid (∀ o, Below w.heap.size w (w.alloc o)) := Lib.hid (fun o => bal _ _)
    have HF := Lib.hid (fal t E A dd c w)
    have HX : Hid (∀ wx, Below (w.alloc (.cells (fC t E dd A c) 27)).heap.size (w.alloc (.cells (fC t E dd A c) 27)) wx → FAt wx w.heap.size 0 t E dd A c ∧ Below w.heap.size w wx ∧ w.heap.size < wx.heap.size) := Lib.hid (fun wx hb => ⟨HF.out.below hb (by simp), bt (HAL.out _) hb, by have := hb.size; simp at this; omega⟩)
    clear ih hR hdb hRR
    go_enter Try.func42, Try.ntmps42
    go_wp2
    go_loopw [3, 4] (fun m i wr => ∃ (j : Nat) (mm : Int), j ≤ t.ks.length ∧ i = .int .i64 (j : Int) ∧ m = .int .i64 mm ∧ 0 ≤ mm ∧ Hid (dpL (t.ks.drop j) mm + 1 = R) ∧ Below (w.alloc (.cells (fC t E dd A c) 27)).heap.size (w.alloc (.cells (fC t E dd A c) 27)) wr) (fun _ i _ => t.ks.length - (intOf i).toNat)
    case atStart => exact ⟨0, 0, Nat.zero_le _, rfl, rfl, Int.le_refl _, HX0, Below.refl _ _⟩
    case round =>
      obtain ⟨j, mm, hj, rfl, rfl, hm0, HV, hb⟩ := hrel
      obtain ⟨⟨q0, q1, q2, q3, q4, q5⟩, hbw, hszr⟩ := HX.out _ hb
      by_cases hlt : j < t.ks.length
      · have l1 : (j : Int) < (t.ks.length : Int) := by omega
        obtain ⟨b, f0, rfl, hbl, hc⟩ := HR.out.2.out (by omega)
        obtain ⟨ea, ec, ka, kc, hAt, hRe, hRk⟩ := hc j hlt
        obtain ⟨d0, d1, d2, d3, d4, d5⟩ := hAt.below hbw hbl
        have HRk : Hid (Fm wr.heap.size wr (fkd t.ks j) ea ka) := Lib.hid ⟨hRe.step hbw, hRk.step hbw⟩
        have hstep := dpL_step hlt mm
        have hu := fkd_sz hlt
        have hub := dpF_bd (fkd t.ks j)
        clear hc hAt hRe hRk
        generalize fkd t.ks j = u at *
        have HC := Lib.hid (HIH.out u (by omega) (by omega) ea ec ka kc wr HRk.out)
        obtain ⟨y, hy⟩ : ∃ y, dpF u = y := ⟨_, rfl⟩
        rw [hy] at hstep HC hub
        clear hy hu
        by_cases hlt2 : mm < y
        · rw [if_pos hlt2] at hstep
          have X2 : Hid (dpL (t.ks.drop (j + 1)) y + 1 = R) := Lib.hid (by rw [← hstep]; exact HV.out)
          clear hstep
          go_wp2_with (go_at_call 42; (with_reducible refine HC.out.mono ?_); rintro e w3 ⟨rfl, hb3⟩; have HB3 := Lib.hid (hb.trans (hb3.mono hb.size)); clear hb3)
          go_roundw
          case rel => exact ⟨j + 1, y, by omega, by go_num, rfl, by omega, X2, HB3.out⟩
          case measure => simp [intOf]; try omega
        · rw [if_neg hlt2] at hstep
          have X2 : Hid (dpL (t.ks.drop (j + 1)) mm + 1 = R) := Lib.hid (by rw [← hstep]; exact HV.out)
          clear hstep
          go_wp2_with (go_at_call 42; (with_reducible refine HC.out.mono ?_); rintro e w3 ⟨rfl, hb3⟩; have HB3 := Lib.hid (hb.trans (hb3.mono hb.size)); clear hb3)
          go_roundw
          case rel => exact ⟨j + 1, mm, by omega, by go_num, rfl, hm0, X2, HB3.out⟩
          case measure => simp [intOf]; try omega
      · have l1 : ¬ (j : Int) < (t.ks.length : Int) := by omega
        obtain rfl : j = t.ks.length := by omega
        have hX2 : mm + 1 = R := by have := HV.out; rw [List.drop_length] at this; exact this
        have hrb := HRB.out
        have wm : IntKind.i64.wrap (mm + 1) = R := by rw [IntKind.wrap_i64]; omega
        have X2 := Lib.hid hX2
        clear hX2
        go_wp2
        go_ret
        exact ⟨by rw [← X2.out]; first | rfl | (rw [X2.out]), hbw⟩
set_option maxHeartbeats 4000000 in
theorem rf_fDeep (t : Fx) (E A : Option Addr) (dd c : Nat) (w : World) (hs : t.sz ≤ 100000000) (hR : Fm w.heap.size w t E A) :
    Calls Try.prog 17 #[fV t E dd A c] w fun e w' => e = .returned (.int .i64 (deepF t)) ∧ Below w.heap.size w w' := by
  have HAL : Hid (∀ o, Below w.heap.size w (w.alloc o)) := Lib.hid (fun o => bal _ _)
  have HF := Lib.hid (fal t E A dd c w)
  have HC := Lib.hid (rf_fCheck t E A dd c (w.alloc (.cells (fC t E dd A c) 27)) hs (hR.step (bal _ _)))
  have HD : Hid (∀ wx, Below (w.alloc (.cells (fC t E dd A c) 27)).heap.size (w.alloc (.cells (fC t E dd A c) 27)) wx → FAt wx w.heap.size 0 t E dd A c ∧ Below w.heap.size w wx ∧ Calls Try.prog 42 #[fV t E dd A c] wx fun e w' => e = .returned (.int .i64 (dpF t)) ∧ Below wx.heap.size wx w') := Lib.hid (fun wx hb => ⟨HF.out.below hb (by simp), bt (HAL.out _) hb, rf_deep t.sz t (Nat.le_refl _) hs E dd A c wx ((hR.step (bal _ _)).step hb)⟩)
  obtain ⟨p0, p1, p2, p3, p4, p5⟩ := HF.out
  by_cases hc : chkF t = 0
  · have X : Hid (deepF t = dpF t) := Lib.hid (if_neg (by simpa using hc))
    rw [hc] at HC
    generalize dpF t = R at *
    clear hR hc
    go_enter Try.func17, Try.ntmps17
    go_wp2_with (first
      | (go_at_call 42; have _ := HD1; (with_reducible refine HD1.out.2.2.mono ?_); rintro e w2 ⟨rfl, hb2⟩; have HB2 := Lib.hid (bt HD1.out.2.1 hb2); clear hb2)
      | (go_at_call 10; (with_reducible refine HC.out.mono ?_); rintro e w1 ⟨rfl, hb1⟩; have HD1 := Lib.hid (HD.out _ hb1); obtain ⟨r0, r1, r2, r3, r4, r5⟩ := HD1.out.1; clear hb1))
    go_ret
    exact ⟨by rw [X.out]; rfl, HB2.out⟩
  · have X : Hid (deepF t = 0) := Lib.hid (if_pos hc)
    generalize chkF t = z at *
    have hz : (z != 0) = true := by simp [hc]
    clear hR hc
    go_enter Try.func17, Try.ntmps17
    go_wp2_with (go_at_call 10; (with_reducible refine HC.out.mono ?_); rintro e w1 ⟨rfl, hb1⟩; have HD1 := Lib.hid (HD.out _ hb1); clear hb1)
    go_ret
    exact ⟨by rw [X.out]; rfl, HD1.out.2.1⟩
end Go.Proofs.Ytnjkphopklbogaa
namespace Go.Proofs.Ytnjkphopklbogaa
open Go.RowKit

mutual
theorem chF_cnt : ∀ (t : Fx) (d k : Int), 0 ≤ k → k + t.sz ≤ 1000000000 → (chF t d k).1 = 0 → (chF t d k).2 = k + ((dl t d).length : Int)
  | .mk o e ks, d, k, h0, h1, h2 => by
    have hz : (Fx.mk o e ks).sz = e.sz + fszL ks := rfl
    have hp := sz_pos e
    have hw : wrap64 (k + 1) = k + 1 := by unfold wrap64; omega
    rw [chF_eq, hw] at h2 ⊢
    by_cases hf : flF (.mk o e ks) d (k + 1) = 0
    · rw [if_pos hf] at h2 ⊢
      have h := chFL_cnt ks (d + 1) (k + 1) (by omega) (by omega) h2
      show (chFL ks (d + 1) (k + 1)).2 = k + (((d :: dlL ks (d + 1)).length : Nat) : Int)
      rw [h, List.length_cons]
      omega
    · rw [if_neg hf] at h2
      exact absurd h2 hf
theorem chFL_cnt : ∀ (l : List Fx) (d k : Int), 0 ≤ k → k + fszL l ≤ 1000000000 → (chFL l d k).1 = 0 → (chFL l d k).2 = k + ((dlL l d).length : Int)
  | [], d, k, _, _, _ => by show k = k + ((0 : Nat) : Int); omega
  | t :: r, d, k, h0, h1, h2 => by
    have hz : fszL (t :: r) = t.sz + fszL r := rfl
    have hl := dl_len t d
    have h2' : (if (chF t d k).1 = 0 then chFL r d (chF t d k).2 else chF t d k).1 = 0 := h2
    show (if (chF t d k).1 = 0 then chFL r d (chF t d k).2 else chF t d k).2 = k + (((dl t d ++ dlL r d).length : Nat) : Int)
    by_cases he : (chF t d k).1 = 0
    · rw [if_pos he] at h2' ⊢
      have e1 := chF_cnt t d k h0 (by omega) he
      have e2 := chFL_cnt r d (chF t d k).2 (by omega) (by omega) h2'
      rw [e2, List.length_append]
      omega
    · rw [if_neg he] at h2'
      exact absurd h2' he
end
theorem size_agree (t : Fx) (hs : t.sz ≤ 100000000) : sizF t = ((dpsF t).length : Int) := by
  unfold sizF dpsF
  by_cases hc : chkF t = 0
  · rw [if_neg (by simpa using hc), if_neg (by simpa using hc), chF_cnt t 1 0 (by decide) (by omega) hc]
    omega
  · rw [if_pos hc, if_pos hc]; rfl
/-! ### Plain -/
mutual
def plF : Fx → Bool | .mk o _ ks => (decide (o < 6) || decide (13 < o)) && plL ks
def plL : List Fx → Bool
  | [] => true
  | t :: r => plF t && plL r
end
theorem plF_eq (t : Fx) : plF t = ((decide (t.op < 6) || decide (13 < t.op)) && plL t.ks) := by cases t; rfl
theorem plL_step {l : List Fx} {k : Nat} (h : k < l.length) : plL (l.drop k) = (plF (fkd l k) && plL (l.drop (k + 1))) := by rw [fkd_drop h]; rfl
def stP (_ : Unit) (t : Fx) (_ : Int) : Unit × Bool := ((), decide (t.op < 6) || decide (13 < t.op))
mutual
theorem fvis_pl : ∀ (t : Fx) (d : Int) (s : Unit), fvis stP t d s = ((), plF t)
  | .mk o e ks, d, s => by
    rw [fvis_eq, plF_eq]
    show (if (decide (o < 6) || decide (13 < o)) = true then fvisL stP ks (d + 1) () else ((), false)) = ((), (decide (o < 6) || decide (13 < o)) && plL ks)
    rw [fvisL_pl ks (d + 1) ()]
    cases (decide (o < 6) || decide (13 < o)) <;> rfl
theorem fvisL_pl : ∀ (l : List Fx) (d : Int) (s : Unit), fvisL stP l d s = ((), plL l)
  | [], _, _ => rfl
  | t :: r, d, s => by
    show (if (fvis stP t d s).2 then fvisL stP r d (fvis stP t d s).1 else ((fvis stP t d s).1, false)) = ((), plF t && plL r)
    rw [fvis_pl t d s]
    show (if plF t then fvisL stP r d () else ((), false)) = _
    rw [fvisL_pl r d ()]
    cases plF t <;> rfl
end
abbrev InP : Inv Unit := fun _ _ _ => True
theorem InP.kept : KeptI InP := ⟨fun _ _ _ _ _ _ => trivial, fun _ _ _ _ _ _ => trivial, fun _ _ _ _ _ _ => trivial⟩
set_option maxHeartbeats 4000000 in
theorem pr_plain1 (S : Nat → Prop) (w : World) (t : Fx) (E A : Option Addr) (dd c : Nat) (d : Int) :
    Calls Try.prog 43 #[fV t E dd A c, .int .i64 d] w (VisP InP S w (stP () t d)) := by
  have HAL : Hid (∀ o, Frm S w (w.alloc o)) := Lib.hid (fun o => Frm.of_below (bal _ _))
  obtain ⟨p0, p1, p2, p3, p4, p5⟩ := fal t E A dd c w
  obtain ⟨R, hR⟩ : ∃ R, stP () t d = R := ⟨_, rfl⟩
  rw [hR]
  unfold stP at hR
  by_cases h1 : t.op < 6
  · have X : Hid (R = ((), true)) := Lib.hid (by rw [← hR, decide_eq_true h1]; rfl)
    clear hR
    go_enter Try.func43, Try.ntmps43
    go_wp2
    go_ret
    rw [X.out]
    exact ⟨rfl, trivial, HAL.out _⟩
  · by_cases h2 : 13 < t.op
    · have X : Hid (R = ((), true)) := Lib.hid (by rw [← hR, decide_eq_true h2, Bool.or_true])
      clear hR
      go_enter Try.func43, Try.ntmps43
      go_wp2
      go_ret
      rw [X.out]
      exact ⟨rfl, trivial, HAL.out _⟩
    · have X : Hid (R = ((), false)) := Lib.hid (by rw [← hR, decide_eq_false h1, decide_eq_false h2]; rfl)
      clear hR
      go_enter Try.func43, Try.ntmps43
      go_wp2
      go_ret
      rw [X.out]
      exact ⟨rfl, trivial, HAL.out _⟩
set_option maxHeartbeats 4000000 in
theorem pr_fPlain (t : Fx) (E A : Option Addr) (dd c : Nat) (w : World) (hs : t.sz ≤ 100000000) (hR : Fm w.heap.size w t E A) :
    Calls Try.prog 18 #[fV t E dd A c] w (ValP w (plF t)) := by
  have HAL : Hid (∀ o, Below w.heap.size w (w.alloc o)) := Lib.hid (fun o => bal _ _)
  have HV : Hid (Calls Try.prog 30 #[fV t E dd A c, .int .i64 1, .func (.func 43) #[] #[]] (w.alloc (.cells (fC t E dd A c) 27)) (VisP InP (fun b => (w.alloc (.cells (fC t E dd A c) 27)).heap.size ≤ b) (w.alloc (.cells (fC t E dd A c) 27)) ((), plF t))) := Lib.hid (by
    have h := pr_fvisit 43 _ InP stP (w.alloc (.cells (fC t E dd A c) 27)).heap.size .nilFunc .nilFunc (fun _ => 0) 100000000 (fun _ _ _ => by omega) (.inr (.inl ⟨rfl, rfl⟩)) InP.kept (fun S s w t E eC A c d _ _ _ _ _ _ _ _ _ => pr_plain1 S w t E A eC c d) t.sz t (Nat.le_refl _) hs E dd A c 1 (fun b => (w.alloc (.cells (fC t E dd A c) 27)).heap.size ≤ b) () (w.alloc (.cells (fC t E dd A c) 27)) trivial (fun b hb h => by omega) (fun b hb => hb) (Nat.le_refl _) (hR.step (bal _ _)) (by omega) (by omega) (by omega)
    rw [fvis_pl] at h
    exact h)
  obtain ⟨p0, p1, p2, p3, p4, p5⟩ := fal t E A dd c w
  generalize plF t = R at *
  clear hR
  go_enter Try.func18, Try.ntmps18
  go_wp2_with (go_at_call 30; (with_reducible refine HV.out.mono ?_); rintro e w1 ⟨rfl, _, hb1⟩; have HB1 := Lib.hid (hb1.below2 (fun k hk h => by omega) (Nat.le_refl _)); clear hb1)
  go_ret
  exact ⟨rfl, bt (HAL.out _) HB1.out⟩
set_option maxRecDepth 100000 in
set_option maxHeartbeats 8000000 in
theorem rf_fPlain : ∀ (n : Nat) t, t.sz ≤ n → n ≤ 100000000 → ∀ E dd A c w, Fm w.heap.size w t E A →
    Calls Try.prog 19 #[fV t E dd A c] w (ValP w (plF t)) := by
  intro n
  induction n with
  | zero => intro t h; have := fsz_pos t; omega
  | succ n ih =>
    intro t ht hnn E dd A c w hR
    have HIH := Lib.hid ih
    have HR := Lib.hid hR
    have hkb : t.ks.length ≤ 1000000000 := by have := fkl_sz t; omega
    obtain ⟨R, hRR⟩ : ∃ R, plF t = R := ⟨_, rfl⟩
    rw [hRR]
    rw [plF_eq] at hRR
    have HAL : Hid (∀ o, Below w.heap.size w (w.alloc o)) := Lib.hid (fun o => bal _ _)
    have HF := Lib.hid (fal t E A dd c w)
    have HX : Hid (∀ wx, Below (w.alloc (.cells (fC t E dd A c) 27)).heap.size (w.alloc (.cells (fC t E dd A c) 27)) wx → FAt wx w.heap.size 0 t E dd A c ∧ Below w.heap.size w wx ∧ w.heap.size < wx.heap.size) := Lib.hid (fun wx hb => ⟨HF.out.below hb (by simp), bt (HAL.out _) hb, by have := hb.size; simp at this; omega⟩)
    clear ih hR
    obtain ⟨p0, p1, p2, p3, p4, p5⟩ := HF.out
    by_cases hop : 6 ≤ t.op ∧ t.op ≤ 13
    · obtain ⟨o1, o2⟩ := hop
      have X : Hid (R = false) := Lib.hid (by rw [← hRR, decide_eq_false (by omega), decide_eq_false (by omega)]; rfl)
      clear hRR
      go_enter Try.func19, Try.ntmps19
      go_wp2
      go_ret
      exact ⟨by rw [X.out]; rfl, HAL.out _⟩
    · have hb : (decide (t.op < 6) || decide (13 < t.op)) = true := by
        by_cases h1 : t.op < 6
        · rw [decide_eq_true h1]; rfl
        · rw [decide_eq_true (show 13 < t.op by omega), Bool.or_true]
      rw [hb, Bool.true_and] at hRR
      have HX0 : Hid (plL (t.ks.drop 0) = R) := Lib.hid hRR
      clear hRR hb
      have hsp : t.op < 6 ∨ (6 ≤ t.op ∧ 13 < t.op) := by omega
      clear hop
      rcases hsp with o1 | ⟨o1, o2⟩
      · have o3 : ¬ 6 ≤ t.op := by omega
        go_enter Try.func19, Try.ntmps19
        go_wp2
        go_loopw [3] (fun i wr => ∃ (j : Nat), j ≤ t.ks.length ∧ i = .int .i64 (j : Int) ∧ Hid (plL (t.ks.drop j) = R) ∧ Below (w.alloc (.cells (fC t E dd A c) 27)).heap.size (w.alloc (.cells (fC t E dd A c) 27)) wr) (fun i _ => t.ks.length - (intOf i).toNat)
        case atStart => exact ⟨0, Nat.zero_le _, rfl, HX0, Below.refl _ _⟩
        case round =>
          obtain ⟨j, hj, rfl, HV, hb⟩ := hrel
          obtain ⟨⟨q0, q1, q2, q3, q4, q5⟩, hbw, hszr⟩ := HX.out _ hb
          by_cases hlt : j < t.ks.length
          · have l1 : (j : Int) < (t.ks.length : Int) := by omega
            obtain ⟨b, f0, rfl, hbl, hc⟩ := HR.out.2.out (by omega)
            obtain ⟨ea, ec, ka, kc, hAt, hRe, hRk⟩ := hc j hlt
            obtain ⟨d0, d1, d2, d3, d4, d5⟩ := hAt.below hbw hbl
            have HRk : Hid (Fm wr.heap.size wr (fkd t.ks j) ea ka) := Lib.hid ⟨hRe.step hbw, hRk.step hbw⟩
            have hstep := plL_step hlt
            rw [HV.out] at hstep
            have hu := fkd_sz hlt
            clear hc hAt hRe hRk
            generalize fkd t.ks j = u at *
            have HC := Lib.hid (HIH.out u (by omega) (by omega) ea ec ka kc wr HRk.out)
            obtain ⟨y, hy⟩ : ∃ y, plF u = y := ⟨_, rfl⟩
            rw [hy] at hstep HC
            clear hy hu
            cases y
            · have X2 : Hid (R = false) := Lib.hid (by simpa using hstep)
              clear hstep
              go_wp2_with (go_at_call 19; (with_reducible refine HC.out.mono ?_); rintro e w3 ⟨rfl, hb3⟩; have HB3 := Lib.hid (hb.trans (hb3.mono hb.size)); clear hb3)
              go_ret
              exact ⟨by rw [X2.out]; rfl, (HX.out _ HB3.out).2.1⟩
            · have X2 : Hid (plL (t.ks.drop (j + 1)) = R) := Lib.hid (by simpa using hstep.symm)
              clear hstep
              go_wp2_with (go_at_call 19; (with_reducible refine HC.out.mono ?_); rintro e w3 ⟨rfl, hb3⟩; have HB3 := Lib.hid (hb.trans (hb3.mono hb.size)); clear hb3)
              go_roundw
              case rel => exact ⟨j + 1, by omega, by go_num, X2, HB3.out⟩
              case measure => simp [intOf]; try omega
          · have l1 : ¬ (j : Int) < (t.ks.length : Int) := by omega
            obtain rfl : j = t.ks.length := by omega
            have X2 : Hid (R = true) := Lib.hid (by have := HV.out; rw [List.drop_length] at this; exact this.symm)
            go_wp2
            go_ret
            exact ⟨by rw [X2.out]; rfl, hbw⟩
      · have o3 : ¬ t.op ≤ 13 := by omega
        go_enter Try.func19, Try.ntmps19
        go_wp2
        go_loopw [3] (fun i wr => ∃ (j : Nat), j ≤ t.ks.length ∧ i = .int .i64 (j : Int) ∧ Hid (plL (t.ks.drop j) = R) ∧ Below (w.alloc (.cells (fC t E dd A c) 27)).heap.size (w.alloc (.cells (fC t E dd A c) 27)) wr) (fun i _ => t.ks.length - (intOf i).toNat)
        case atStart => exact ⟨0, Nat.zero_le _, rfl, HX0, Below.refl _ _⟩
        case round =>
          obtain ⟨j, hj, rfl, HV, hb⟩ := hrel
          obtain ⟨⟨q0, q1, q2, q3, q4, q5⟩, hbw, hszr⟩ := HX.out _ hb
          by_cases hlt : j < t.ks.length
          · have l1 : (j : Int) < (t.ks.length : Int) := by omega
            obtain ⟨b, f0, rfl, hbl, hc⟩ := HR.out.2.out (by omega)
            obtain ⟨ea, ec, ka, kc, hAt, hRe, hRk⟩ := hc j hlt
            obtain ⟨d0, d1, d2, d3, d4, d5⟩ := hAt.below hbw hbl
            have HRk : Hid (Fm wr.heap.size wr (fkd t.ks j) ea ka) := Lib.hid ⟨hRe.step hbw, hRk.step hbw⟩
            have hstep := plL_step hlt
            rw [HV.out] at hstep
            have hu := fkd_sz hlt
            clear hc hAt hRe hRk
            generalize fkd t.ks j = u at *
            have HC := Lib.hid (HIH.out u (by omega) (by omega) ea ec ka kc wr HRk.out)
            obtain ⟨y, hy⟩ : ∃ y, plF u = y := ⟨_, rfl⟩
            rw [hy] at hstep HC
            clear hy hu
            cases y
            · have X2 : Hid (R = false) := Lib.hid (by simpa using hstep)
              clear hstep
              go_wp2_with (go_at_call 19; (with_reducible refine HC.out.mono ?_); rintro e w3 ⟨rfl, hb3⟩; have HB3 := Lib.hid (hb.trans (hb3.mono hb.size)); clear hb3)
              go_ret
              exact ⟨by rw [X2.out]; rfl, (HX.out _ HB3.out).2.1⟩
            · have X2 : Hid (plL (t.ks.drop (j + 1)) = R) := Lib.hid (by simpa using hstep.symm)
              clear hstep
              go_wp2_with (go_at_call 19; (with_reducible refine HC.out.mono ?_); rintro e w3 ⟨rfl, hb3⟩; have HB3 := Lib.hid (hb.trans (hb3.mono hb.size)); clear hb3)
              go_roundw
              case rel => exact ⟨j + 1, by omega, by go_num, X2, HB3.out⟩
              case measure => simp [intOf]; try omega
          · have l1 : ¬ (j : Int) < (t.ks.length : Int) := by omega
            obtain rfl : j = t.ks.length := by omega
            have X2 : Hid (R = true) := Lib.hid (by have := HV.out; rw [List.drop_length] at this; exact this.symm)
            go_wp2
            go_ret
            exact ⟨by rw [X2.out]; rfl, hbw⟩
end Go.Proofs.Ytnjkphopklbogaa
namespace Go.Proofs.Ytnjkphopklbogaa
open Go.RowKit

def nmX (s : ByteArray) : Fx := .mk 1 (.mk 3 0 s []) []
def xP : Fx := nmX ⟨#[112]⟩
def xQ : Fx := nmX ⟨#[113]⟩
def xU : Fx := .mk 9 ex0 [xP, xQ]
def xN : Fx := .mk 2 ex0 [xU]
abbrev nmC (s : ByteArray) : Array Value := #[.int .i64 1, .int .i64 3, .int .i64 0, .string s, .slice none 0 0, .slice none 0 0]
abbrev nmC2 (s r : ByteArray) : Array Value := #[.int .i64 1, .int .i64 3, .int .i64 0, .string s, .slice none 0 0, .slice none 0 0, .int .i64 1, .int .i64 3, .int .i64 0, .string r, .slice none 0 0, .slice none 0 0]
abbrev opV (o : Int) (R n c : Nat) : Value := .agg #[.int .i64 o, .int .i64 0, .int .i64 0, .string ⟨#[]⟩, .slice none 0 0, .slice (some ⟨R, 0, none⟩) n c]
set_option maxHeartbeats 1000000 in
theorem pr_nm (s : ByteArray) (w : World) : Calls Try.prog 29 #[.string s] w fun e w' => e = .returned (.agg (nmC s)) ∧ Below w.heap.size w w' := by
  have HB : Hid (∀ ob, Below w.heap.size w (w.alloc ob)) := Lib.hid (fun ob => (Below.refl _ _).alloc (Nat.le_refl _) ob)
  go_enter Try.func29, Try.ntmps29
  go_wp2
  exact bodyPost_ret (res_fx rfl _ _ w.heap.size _ _ _ _ _ _ rfl (Blk.new _ _ _)) rfl ⟨rfl, HB.out _⟩
theorem fm_nm (B : Nat) (w : World) (s : ByteArray) : FmS (· < B) w (nmX s) none none := ⟨RepS.leaf rfl, RepFS.leaf rfl⟩
theorem fm_U {w : World} {R : Nat} (h : Blk w R 27 (nmC2 ⟨#[112]⟩ ⟨#[113]⟩)) : Fm w.heap.size w xU none (some ⟨R, 0, none⟩) :=
  FmS.toR ⟨RepS.leaf rfl, rep_pair 9 ex0 h.lt (u := xP) (v := xQ) (E := none) (A := none) (E2 := none) (A2 := none) (d := 0) (c := 0) (d2 := 0) (c2 := 0) ⟨h.cell 0, h.cell 1, h.cell 2, h.cell 3, h.cell 4, h.cell 5⟩ ⟨h.cell 6, h.cell 7, h.cell 8, h.cell 9, h.cell 10, h.cell 11⟩ (fm_nm _ _ _) (fm_nm _ _ _)⟩ (fun _ h => h)
theorem fm_PP {w : World} {R : Nat} (h : Blk w R 27 (nmC2 ⟨#[112]⟩ ⟨#[112]⟩)) : Fm w.heap.size w (.mk 3 ex0 [xP, xP]) none (some ⟨R, 0, none⟩) :=
  FmS.toR ⟨RepS.leaf rfl, rep_pair 3 ex0 h.lt (u := xP) (v := xP) (E := none) (A := none) (E2 := none) (A2 := none) (d := 0) (c := 0) (d2 := 0) (c2 := 0) ⟨h.cell 0, h.cell 1, h.cell 2, h.cell 3, h.cell 4, h.cell 5⟩ ⟨h.cell 6, h.cell 7, h.cell 8, h.cell 9, h.cell 10, h.cell 11⟩ (fm_nm _ _ _) (fm_nm _ _ _)⟩ (fun _ h => h)
theorem fm_G {w : World} {R : Nat} (h : Blk w R 27 (nmC ⟨#[112]⟩)) : Fm w.heap.size w (.mk 12 ex0 [xP]) none (some ⟨R, 0, none⟩) :=
  FmS.toR ⟨RepS.leaf rfl, rep_single 12 ex0 h.lt (u := xP) (E := none) (A := none) (d := 0) (c := 0) ⟨h.cell 0, h.cell 1, h.cell 2, h.cell 3, h.cell 4, h.cell 5⟩ (fm_nm _ _ _)⟩ (fun _ h => h)
theorem fm_N {w : World} {R S : Nat} (h : Blk w R 27 (nmC2 ⟨#[112]⟩ ⟨#[113]⟩)) (h2 : Blk w S 27 (nodC 9 R 2 2)) : Fm w.heap.size w xN none (some ⟨S, 0, none⟩) :=
  FmS.toR ⟨RepS.leaf rfl, rep_single 2 ex0 h2.lt (u := xU) (E := none) (A := some ⟨R, 0, none⟩) (d := 0) (c := 2) ⟨h2.cell 0, h2.cell 1, h2.cell 2, h2.cell 3, h2.cell 4, h2.cell 5⟩ (fm_U h).toS⟩ (fun _ h => h)
theorem psh_G : pshF (.mk 12 ex0 [xP]) true = .mk 7 ex0 [.mk 1 (notE (.mk 3 0 ⟨#[112]⟩ [])) []] := by kernel_rfl
theorem psh_N : pshF xN false = xN := by kernel_rfl
theorem prt_PP : (dedF (prtF (.mk 3 ex0 [xP, xP]))).length = 2 := by kernel_rfl
theorem chk_U : chkF xU = 0 := by kernel_rfl
theorem siz_N : (dpsF xN).length = 4 := by kernel_rfl
theorem dep_N : Lib.maxOf (dpsF xN ++ [0]) = 3 := by kernel_rfl
theorem pl_P : plF xP = true := by kernel_rfl
theorem pl_N : plF xN = false := by kernel_rfl
def AfG (w : World) (e : Ending) (w' : World) : Prop := ∃ E d b f c, e = .returned (.agg #[.int .i64 7, .int .i64 0, .int .i64 0, .string ⟨#[]⟩, .slice E 0 d, .slice (some ⟨b, f, none⟩) 1 c]) ∧ w'.cell? ⟨b, f + 1, none⟩ = some (.int .i64 5) ∧ b < w'.heap.size ∧ Below w.heap.size w w'
theorem c_pushG {w : World} {R : Nat} (h : Blk w R 27 (nmC ⟨#[112]⟩)) : Calls Try.prog 21 #[opV 12 R 1 1, .bool true] w (AfG w) := by
  refine (pr_Push (.mk 12 ex0 [xP]) none (some ⟨R, 0, none⟩) 0 1 true w (by decide) (fm_G h)).mono ?_
  rintro e w' ⟨E, d, A, c, rfl, hf, hb⟩
  rw [psh_G] at hf ⊢
  obtain ⟨b, f, rfl, hb2, hc⟩ := hf.2.out (by decide)
  obtain ⟨ea, ec, ka, kc, hat, _, _⟩ := hc 0 (by decide)
  rw [Nat.zero_mul, Nat.add_zero] at hat
  exact ⟨E, d, b, f, c, rfl, hat.c1, hb2, hb⟩
theorem c_pushN {w : World} {R S : Nat} (h : Blk w R 27 (nmC2 ⟨#[112]⟩ ⟨#[113]⟩)) (h2 : Blk w S 27 (nodC 9 R 2 2)) : Calls Try.prog 21 #[opV 2 S 1 1, .bool false] w fun e w' => ∃ E d A c, e = .returned (.agg #[.int .i64 2, .int .i64 0, .int .i64 0, .string ⟨#[]⟩, .slice E 0 d, .slice A 1 c]) ∧ Fm w'.heap.size w' xN E A ∧ Below w.heap.size w w' := by
  refine (pr_Push xN none (some ⟨S, 0, none⟩) 0 1 false w (by decide) (fm_N h h2)).mono ?_
  rintro e w' ⟨E, d, A, c, rfl, hf, hb⟩
  rw [psh_N] at hf ⊢
  exact ⟨E, d, A, c, rfl, hf, hb⟩
theorem c_sameN {w : World} {R S : Nat} {E A : Option Addr} {d c : Nat} (hf : Fm w.heap.size w xN E A) (h : Blk w R 27 (nmC2 ⟨#[112]⟩ ⟨#[113]⟩)) (h2 : Blk w S 27 (nodC 9 R 2 2)) : Calls Try.prog 26 #[.agg #[.int .i64 2, .int .i64 0, .int .i64 0, .string ⟨#[]⟩, .slice E 0 d, .slice A 1 c], opV 2 S 1 1] w (ValP w true) := by
  have h3 := pr_fSame xN.sz xN (Nat.le_refl _) (by decide) xN (by decide) E d A c none 0 (some ⟨S, 0, none⟩) 1 w hf (fm_N h h2)
  rw [eqF_refl] at h3
  exact h3
theorem c_parts {w : World} {R : Nat} (h : Blk w R 27 (nmC2 ⟨#[112]⟩ ⟨#[112]⟩)) : Calls Try.prog 24 #[opV 3 R 2 2] w fun e w' => ∃ A c, e = .returned (.slice A 2 c) ∧ Below w.heap.size w w' := by
  refine (pr_Parts (.mk 3 ex0 [xP, xP]) none (some ⟨R, 0, none⟩) 0 2 w (by decide) (fm_PP h)).mono ?_
  rintro e w' ⟨A, c, rfl, _, hb⟩
  rw [prt_PP]
  exact ⟨A, c, rfl, hb⟩
theorem c_check {w : World} {R : Nat} (h : Blk w R 27 (nmC2 ⟨#[112]⟩ ⟨#[113]⟩)) : Calls Try.prog 9 #[opV 9 R 2 2] w fun e w' => e = .returned (.int .i64 0) ∧ Below w.heap.size w w' := by
  have h2 := pr_fCheck xU none (some ⟨R, 0, none⟩) 0 2 w (by decide) (fm_U h)
  rw [chk_U] at h2
  exact h2
theorem c_size {w : World} {R S : Nat} (h : Blk w R 27 (nmC2 ⟨#[112]⟩ ⟨#[113]⟩)) (h2 : Blk w S 27 (nodC 9 R 2 2)) : Calls Try.prog 14 #[opV 2 S 1 1] w fun e w' => e = .returned (.int .i64 4) ∧ Below w.heap.size w w' := by
  have h3 := pr_fSize xN none (some ⟨S, 0, none⟩) 0 1 w (by decide) (fm_N h h2)
  rw [siz_N] at h3
  exact h3
theorem c_deep {w : World} {R S : Nat} (h : Blk w R 27 (nmC2 ⟨#[112]⟩ ⟨#[113]⟩)) (h2 : Blk w S 27 (nodC 9 R 2 2)) : Calls Try.prog 16 #[opV 2 S 1 1] w fun e w' => e = .returned (.int .i64 3) ∧ Below w.heap.size w w' := by
  have h3 := pr_fDeep xN none (some ⟨S, 0, none⟩) 0 1 w (by decide) (fm_N h h2)
  rw [dep_N] at h3
  exact h3
theorem c_plP (w : World) : Calls Try.prog 18 #[.agg (nmC ⟨#[112]⟩)] w (ValP w true) := by
  have h3 := pr_fPlain xP none none 0 0 w (by decide) ((fm_nm _ _ _).toR (fun _ h => h))
  rw [pl_P] at h3
  exact h3
theorem c_plN {w : World} {R S : Nat} (h : Blk w R 27 (nmC2 ⟨#[112]⟩ ⟨#[113]⟩)) (h2 : Blk w S 27 (nodC 9 R 2 2)) : Calls Try.prog 18 #[opV 2 S 1 1] w (ValP w false) := by
  have h3 := pr_fPlain xN none (some ⟨S, 0, none⟩) 0 1 w (by decide) (fm_N h h2)
  rw [pl_N] at h3
  exact h3
/-- Until's node lies in a box, its row apart. -/
def LvU (W2 : World) (s : Value) (wx : World) : Prop := ∃ Y R, s = .pointer (some ⟨Y, 0, none⟩) ∧ Blk wx Y 27 (nodC 9 R 2 2) ∧ Blk wx R 27 (nmC2 ⟨#[112]⟩ ⟨#[113]⟩) ∧ Below W2.heap.size W2 wx
theorem lvA {W2 w3 : World} (hb : Below (W2.alloc (.cells fZ 27)).drew.heap.size (W2.alloc (.cells fZ 27)).drew w3) : LvU W2 (.pointer (some ⟨W2.heap.size, 0, none⟩)) (Z6 (w3.alloc (.cells (nmC2 ⟨#[112]⟩ ⟨#[113]⟩) 27)) W2.heap.size (.int .i64 9) (.int .i64 0) (.int .i64 0) (.string ⟨#[]⟩) (.slice none 0 0) (.slice (some ⟨w3.heap.size, 0, none⟩) 2 2)) := by
  have h0 : Below W2.heap.size W2 w3 := bt ((bal W2 (.cells fZ 27)).drew) hb
  have hz := new_drew W2 fZ hb
  have hl := hz.lt
  exact ⟨W2.heap.size, w3.heap.size, rfl, z6_ret _ _ _ _ _ _ (hz.alloc _), (set6_blk _ _ _ _ _ _ _ (by omega)).trans (Blk.new _ _ _), z6_below _ _ _ _ _ _ (al h0 _) (Nat.le_refl _)⟩
theorem lvB {W2 w3 : World} (h0 : Below W2.heap.size W2 w3) : LvU W2 (.pointer (some ⟨w3.heap.size, 0, none⟩)) (Z6 ((w3.alloc (.cells fZ 27)).alloc (.cells (nmC2 ⟨#[112]⟩ ⟨#[113]⟩) 27)) w3.heap.size (.int .i64 9) (.int .i64 0) (.int .i64 0) (.string ⟨#[]⟩) (.slice none 0 0) (.slice (some ⟨w3.heap.size + 1, 0, none⟩) 2 2)) := by
  have hT := two_new w3 fZ (nmC2 ⟨#[112]⟩ ⟨#[113]⟩) (Below.refl _ _)
  exact ⟨w3.heap.size, w3.heap.size + 1, rfl, z6_ret _ _ _ _ _ _ hT.2.1, (set6_blk _ _ _ _ _ _ _ (by omega)).trans hT.2.2, z6_below _ _ _ _ _ _ (bt h0 hT.1) h0.size⟩
theorem lvB2 {W2 w3 : World} (h0 : Below W2.heap.size W2 w3) : LvU W2 (.pointer (some ⟨w3.heap.size, 0, none⟩)) ((w3.alloc (.cells (nodC 9 (w3.heap.size + 1) 2 2) 27)).alloc (.cells (nmC2 ⟨#[112]⟩ ⟨#[113]⟩) 27)) := by
  have hT := two_new w3 (nodC 9 (w3.heap.size + 1) 2 2) (nmC2 ⟨#[112]⟩ ⟨#[113]⟩) (Below.refl _ _)
  exact ⟨w3.heap.size, w3.heap.size + 1, rfl, hT.2.1, hT.2.2, bt h0 hT.1⟩
theorem lvC {W2 w3 : World} (h0 : Below W2.heap.size W2 w3) : LvU W2 (.pointer (some ⟨w3.heap.size + 1, 0, none⟩)) ((w3.alloc (.cells (nmC2 ⟨#[112]⟩ ⟨#[113]⟩) 27)).alloc (.cells (nodC 9 w3.heap.size 2 2) 27)) := by
  have hT := two_new w3 (nmC2 ⟨#[112]⟩ ⟨#[113]⟩) (nodC 9 w3.heap.size 2 2) (Below.refl _ _)
  exact ⟨w3.heap.size + 1, w3.heap.size, rfl, hT.2.2, hT.2.1, bt h0 hT.1⟩
end Go.Proofs.Ytnjkphopklbogaa
namespace Go.Proofs.Ytnjkphopklbogaa
open Go.RowKit

/-- What lies once the examples are made. -/
structure LvM (g1 g2 b2 f2 y3 r3 r4 y4 : Nat) (E2 : Option Addr) (d2 c2 : Nat) (wx : World) : Prop where
  k1 : Blk wx g1 27 (nmC ⟨#[112]⟩)
  k2 : Blk wx g2 27 #[.int .i64 7, .int .i64 0, .int .i64 0, .string ⟨#[]⟩, .slice E2 0 d2, .slice (some ⟨b2, f2, none⟩) 1 c2]
  hb : b2 < wx.heap.size
  k0 : wx.cell? ⟨b2, f2 + 1, none⟩ = some (.int .i64 5)
  k3 : Blk wx y3 27 (nodC 9 r3 2 2)
  kr : Blk wx r3 27 (nmC2 ⟨#[112]⟩ ⟨#[113]⟩)
  k4 : Blk wx r4 27 (nodC 9 r3 2 2)
  kn : Blk wx y4 27 (nodC 2 r4 1 1)
theorem LvM.below {g1 g2 b2 f2 y3 r3 r4 y4 : Nat} {E2 : Option Addr} {d2 c2 : Nat} {w w' : World} (h : LvM g1 g2 b2 f2 y3 r3 r4 y4 E2 d2 c2 w) (hb : Below w.heap.size w w') : LvM g1 g2 b2 f2 y3 r3 r4 y4 E2 d2 c2 w' :=
  ⟨h.k1.below hb h.k1.lt, h.k2.below hb h.k2.lt, Nat.lt_of_lt_of_le h.hb hb.size, (hb.cell (p := ⟨b2, f2 + 1, none⟩) h.hb).trans h.k0, h.k3.below hb h.k3.lt, h.kr.below hb h.kr.lt, h.k4.below hb h.k4.lt, h.kn.below hb h.kn.lt⟩
set_option maxRecDepth 100000 in
set_option maxHeartbeats 16000000 in
theorem law_lives (w : World) : Calls Try.prog 8 #[] w (ValP w true) := by
  go_enter Try.func8, Try.ntmps8
  go_upto_region 2 with (go_at_call 29; (with_reducible refine (pr_nm _ _).mono ?_); rintro e w1 ⟨rfl, hb1⟩; have HB1 := Lib.hid hb1; clear hb1)
  obtain ⟨W1, hW1⟩ : ∃ W, w1.alloc (.cells (nmC ⟨#[112]⟩) 27) = W := ⟨_, rfl⟩
  obtain ⟨g1, hg1⟩ : ∃ g, w1.heap.size = g := ⟨_, rfl⟩
  rw [hW1, hg1]
  have hk1 : Blk W1 g1 27 (nmC ⟨#[112]⟩) := by rw [← hW1, ← hg1]; exact Blk.new _ _ _
  have HBW1 : Hid (Below w.heap.size w W1) := Lib.hid (by rw [← hW1]; exact al HB1.out _)
  have HPG : Hid (Calls Try.prog 21 #[opV 12 W1.heap.size 1 1, .bool true] (W1.alloc (.cells (nmC ⟨#[112]⟩) 27)) (AfG (W1.alloc (.cells (nmC ⟨#[112]⟩) 27)))) := Lib.hid (c_pushG (Blk.new _ _ _))
  have HK1 := Lib.hid hk1
  have a0 := hk1.cell 0
  have a1 := hk1.cell 1
  have a2 := hk1.cell 2
  have a3 := hk1.cell 3
  have a4 := hk1.cell 4
  have a5 := hk1.cell 5
  clear hW1 hg1 HB1 hk1
  go_upto_region 3 with (go_at_call 21; (with_reducible refine HPG.out.mono ?_); rintro e w2 ⟨E2, d2, b2, f2, c2, rfl, hc2, hl2, hb2⟩; have HC2 := Lib.hid hc2; have HL2 := Lib.hid hl2; have HB2 := Lib.hid (bt (bal W1 _) hb2); clear hc2 hl2 hb2)
  obtain ⟨W2, hW2⟩ : ∃ W, w2.alloc (.cells #[.int .i64 7, .int .i64 0, .int .i64 0, .string ⟨#[]⟩, .slice E2 0 d2, .slice (some ⟨b2, f2, none⟩) 1 c2] 27) = W := ⟨_, rfl⟩
  obtain ⟨g2, hg2⟩ : ∃ g, w2.heap.size = g := ⟨_, rfl⟩
  rw [hW2, hg2]
  have HK2 : Hid (Blk W2 g2 27 #[.int .i64 7, .int .i64 0, .int .i64 0, .string ⟨#[]⟩, .slice E2 0 d2, .slice (some ⟨b2, f2, none⟩) 1 c2]) := Lib.hid (by rw [← hW2, ← hg2]; exact Blk.new _ _ _)
  have hb12 : Below W1.heap.size W1 W2 := by rw [← hW2]; exact al HB2.out _
  have HC0 : Hid (b2 < W2.heap.size ∧ W2.cell? ⟨b2, f2 + 1, none⟩ = some (.int .i64 5)) := Lib.hid (by
    rw [← hW2]
    have h := bal w2 (.cells #[.int .i64 7, .int .i64 0, .int .i64 0, .string ⟨#[]⟩, .slice E2 0 d2, .slice (some ⟨b2, f2, none⟩) 1 c2] 27)
    exact ⟨Nat.lt_of_lt_of_le HL2.out h.size, (h.cell (p := ⟨b2, f2 + 1, none⟩) HL2.out).trans HC2.out⟩)
  have HBW2 : Hid (Below w.heap.size w W2) := Lib.hid (bt HBW1.out hb12)
  have HKA : Hid (Blk W2 g1 27 (nmC ⟨#[112]⟩)) := Lib.hid (HK1.out.below hb12 HK1.out.lt)
  have HS : Hid (∀ wx, Below W2.heap.size W2 wx → (wx.cell? ⟨g1, 0, none⟩ = some (.int .i64 1) ∧ wx.cell? ⟨g1, 1, none⟩ = some (.int .i64 3) ∧ wx.cell? ⟨g1, 2, none⟩ = some (.int .i64 0) ∧ wx.cell? ⟨g1, 3, none⟩ = some (.string ⟨#[112]⟩) ∧ wx.cell? ⟨g1, 4, none⟩ = some (.slice none 0 0) ∧ wx.cell? ⟨g1, 5, none⟩ = some (.slice none 0 0))) := Lib.hid (fun wx hb => by
    have h := HKA.out.below hb HKA.out.lt
    exact ⟨h.cell 0, h.cell 1, h.cell 2, h.cell 3, h.cell 4, h.cell 5⟩)
  have HDR : Hid (Below W2.heap.size W2 W2.drew) := Lib.hid ((Below.refl _ _).drew)
  have HAD : Hid (Below W2.heap.size W2 (W2.alloc (.cells fZ 27)).drew) := Lib.hid ((bal W2 (.cells fZ 27)).drew)
  clear hW2 hg2 hb12 a0 a1 a2 a3 a4 a5 HK1 HB2 HC2 HL2 HPG
  go_cut [3] (fun s3 wx => LvU W2 s3 wx)
  case first =>
    go_region_held3 (fun wx => (wx.cell? ⟨g1, 0, none⟩ = some (.int .i64 1) ∧ wx.cell? ⟨g1, 1, none⟩ = some (.int .i64 3) ∧ wx.cell? ⟨g1, 2, none⟩ = some (.int .i64 0) ∧ wx.cell? ⟨g1, 3, none⟩ = some (.string ⟨#[112]⟩) ∧ wx.cell? ⟨g1, 4, none⟩ = some (.slice none 0 0) ∧ wx.cell? ⟨g1, 5, none⟩ = some (.slice none 0 0))) (first
      | with_reducible exact HS.out _ (z6_below _ _ _ _ _ _ (al (al H3.out _) _) H3.out.size)
      | with_reducible exact HS.out _ (z6_below _ _ _ _ _ _ (al H3.out _) (Nat.le_refl _))
      | with_reducible exact HS.out _ (al (al H3.out _) _)
      | with_reducible exact HS.out _ (al H3.out _)
      | with_reducible exact HS.out _ H3.out
      | with_reducible exact HS.out _ HAD.out
      | with_reducible exact HS.out _ HDR.out
      | with_reducible exact HS.out _ (Below.refl _ _)
      | exact HS.out _ HAD.out
      | exact HS.out _ HDR.out
      | exact HS.out _ (Below.refl _ _)) ((go_at_call 29; (with_reducible refine (pr_nm _ _).mono ?_); rintro e w3 ⟨rfl, hb3⟩; (first
          | ((with_reducible have hA := lvA hb3); have HLA := Lib.hid hA; clear hA; have zz := new_drew W2 fZ hb3; have h3 := bt HAD.out hb3; have H3 := Lib.hid h3; have zr := zz.alloc (.cells (nmC2 ⟨#[112]⟩ ⟨#[113]⟩) 27); have z0 := zr.cell 0; have z1 := zr.cell 1; have z2 := zr.cell 2; have z3 := zr.cell 3; have z4 := zr.cell 4; have z5 := zr.cell 5; have q0 := zr.frozen 0; have q1 := zr.frozen 1; have q2 := zr.frozen 2; have q3 := zr.frozen 3; have q4 := zr.frozen 4; have q5 := zr.frozen 5; have zl := zr.lt; clear zz zr h3)
          | (have h3 := bt HDR.out hb3; have H3 := Lib.hid h3; have HLB := Lib.hid (lvB h3); have HLD := Lib.hid (lvB2 h3); have HLC := Lib.hid (lvC h3); clear h3)); clear hb3))
    all_goals
      go_wp2_with fail
      go_meet
      first
        | (have _ := HLA; exact HLA.out)
        | with_reducible exact HLB.out
        | with_reducible exact HLD.out
        | with_reducible exact HLC.out
        | exact HLC.out
  case rest =>
  obtain ⟨y3, r3, rfl, hy3, hr3, hb3⟩ := hcut
  obtain ⟨w3, w3e⟩ : ∃ x, x = wc := ⟨_, rfl⟩
  subst w3e
  have HY3 := Lib.hid hy3
  have HR3 := Lib.hid hr3
  have HB3 := Lib.hid hb3
  have a0 := hy3.cell 0
  have a1 := hy3.cell 1
  have a2 := hy3.cell 2
  have a3 := hy3.cell 3
  have a4 := hy3.cell 4
  have a5 := hy3.cell 5
  clear hy3 hr3 hb3 HS HDR HAD
  go_upto_region 5 with (fail)
  have hT := two_new w3 (nodC 9 r3 2 2) (nodC 2 w3.heap.size 1 1) (Below.refl _ _)
  obtain ⟨W4, hW4⟩ : ∃ W, (w3.alloc (.cells (nodC 9 r3 2 2) 27)).alloc (.cells (nodC 2 w3.heap.size 1 1) 27) = W := ⟨_, rfl⟩
  rw [hW4]
  rw [hW4] at hT
  obtain ⟨r4, hr4⟩ : ∃ g, w3.heap.size = g := ⟨_, rfl⟩
  have hM : LvM g1 g2 b2 f2 y3 r3 r4 (r4 + 1) E2 d2 c2 W4 := by
    rw [← hr4]
    have hb := bt HB3.out hT.1
    exact ⟨HKA.out.below hb HKA.out.lt, HK2.out.below hb HK2.out.lt, Nat.lt_of_lt_of_le HC0.out.1 hb.size, (hb.cell (p := ⟨b2, f2 + 1, none⟩) HC0.out.1).trans HC0.out.2, HY3.out.below hT.1 HY3.out.lt, HR3.out.below hT.1 HR3.out.lt, hT.2.1, hT.2.2⟩
  have HBW4 : Hid (Below w.heap.size w W4) := Lib.hid (bt HBW2.out (bt HB3.out hT.1))
  rw [hr4]
  obtain ⟨y4, hy4⟩ : ∃ y, r4 + 1 = y := ⟨_, rfl⟩
  rw [hy4] at hM ⊢
  have HM := Lib.hid (fun wx (hb : Below W4.heap.size W4 wx) => hM.below hb)
  have HL4 := Lib.hid hM.hb
  clear hT hW4 hr4 hM hy4 a0 a1 a2 a3 a4 a5 HKA HK2 HC0 HY3 HR3 HB3 HBW2 HBW1
  have HS : Hid (∀ wx, Below W4.heap.size W4 wx → (wx.cell? ⟨g2, 0, none⟩ = some (.int .i64 7) ∧ wx.cell? ⟨g2, 5, none⟩ = some (.slice (some ⟨b2, f2, none⟩) 1 c2)) ∧ wx.cell? ⟨b2, f2 + 1, none⟩ = some (.int .i64 5) ∧ wx.cell? ⟨y4, 0, none⟩ = some (.int .i64 2) ∧ wx.cell? ⟨y4, 1, none⟩ = some (.int .i64 0) ∧ wx.cell? ⟨y4, 2, none⟩ = some (.int .i64 0) ∧ wx.cell? ⟨y4, 3, none⟩ = some (.string ⟨#[]⟩) ∧ wx.cell? ⟨y4, 4, none⟩ = some (.slice none 0 0) ∧ wx.cell? ⟨y4, 5, none⟩ = some (.slice (some ⟨r4, 0, none⟩) 1 1)) := Lib.hid (fun wx hb => by
    have h := HM.out wx hb
    exact ⟨⟨h.k2.cell 0, h.k2.cell 5⟩, h.k0, h.kn.cell 0, h.kn.cell 1, h.kn.cell 2, h.kn.cell 3, h.kn.cell 4, h.kn.cell 5⟩)
  have HDR : Hid (Below W4.heap.size W4 W4.drew) := Lib.hid ((Below.refl _ _).drew)
  have HPN : Hid (∀ wx, Below W4.heap.size W4 wx → Calls Try.prog 21 #[opV 2 r4 1 1, .bool false] wx fun e w' => ∃ E d A c, e = .returned (.agg #[.int .i64 2, .int .i64 0, .int .i64 0, .string ⟨#[]⟩, .slice E 0 d, .slice A 1 c]) ∧ Fm w'.heap.size w' xN E A ∧ Below wx.heap.size wx w') := Lib.hid (fun wx hb => c_pushN (HM.out wx hb).kr (HM.out wx hb).k4)
  have HSN : Hid (∀ wx E A d c, Below W4.heap.size W4 wx → Fm wx.heap.size wx xN E A → Calls Try.prog 26 #[.agg #[.int .i64 2, .int .i64 0, .int .i64 0, .string ⟨#[]⟩, .slice E 0 d, .slice A 1 c], opV 2 r4 1 1] wx (ValP wx true)) := Lib.hid (fun wx E A d c hb hf => c_sameN hf (HM.out wx hb).kr (HM.out wx hb).k4)
  go_region_held3 (fun wx => (wx.cell? ⟨g2, 0, none⟩ = some (.int .i64 7) ∧ wx.cell? ⟨g2, 5, none⟩ = some (.slice (some ⟨b2, f2, none⟩) 1 c2)) ∧ wx.cell? ⟨b2, f2 + 1, none⟩ = some (.int .i64 5) ∧ wx.cell? ⟨y4, 0, none⟩ = some (.int .i64 2) ∧ wx.cell? ⟨y4, 1, none⟩ = some (.int .i64 0) ∧ wx.cell? ⟨y4, 2, none⟩ = some (.int .i64 0) ∧ wx.cell? ⟨y4, 3, none⟩ = some (.string ⟨#[]⟩) ∧ wx.cell? ⟨y4, 4, none⟩ = some (.slice none 0 0) ∧ wx.cell? ⟨y4, 5, none⟩ = some (.slice (some ⟨r4, 0, none⟩) 1 1)) (first
    | with_reducible exact HS.out _ H6.out
    | with_reducible exact HS.out _ H5.out
    | with_reducible exact HS.out _ HDR.out
    | with_reducible exact HS.out _ (Below.refl _ _)
    | exact HS.out _ HDR.out
    | exact HS.out _ (Below.refl _ _)) ((first
      | (go_at_call 26; have _ := H5; (with_reducible refine (HSN.out _ _ _ _ _ H5.out HF5.out).mono ?_); rintro e w6 ⟨rfl, hb6⟩; have H6 := Lib.hid (bt H5.out hb6); clear hb6)
      | (go_at_call 21; (with_reducible refine (HPN.out _ HDR.out).mono ?_); rintro e w5 ⟨E5, d5, A5, c5, rfl, hf5, hb5⟩; have HF5 := Lib.hid hf5; have H5 := Lib.hid (bt HDR.out hb5); clear hf5 hb5)))
  have hm6 := HM.out w6 H6.out
  have a0 := hm6.k1.cell 0
  have a1 := hm6.k1.cell 1
  have a2 := hm6.k1.cell 2
  have a3 := hm6.k1.cell 3
  have a4 := hm6.k1.cell 4
  have a5 := hm6.k1.cell 5
  clear hm6
  go_wp2_with (first
    | (go_at_call 18; have _ := H11; (with_reducible refine (c_plN (HM.out _ H11.out).kr (HM.out _ H11.out).k4).mono ?_); rintro e w12 ⟨rfl, hb12⟩; have H12 := Lib.hid (bt H11.out hb12); clear hb12)
    | (go_at_call 18; have _ := H10; (with_reducible refine (c_plP _).mono ?_); rintro e w11 ⟨rfl, hb11⟩; have h11 := bt H10.out hb11; have m11 := (HM.out w11 h11).kn; have t0 := m11.cell 0; have t1 := m11.cell 1; have t2 := m11.cell 2; have t3 := m11.cell 3; have t4 := m11.cell 4; have t5 := m11.cell 5; have H11 := Lib.hid h11; clear hb11 h11 m11)
    | (go_at_call 16; have _ := H9; (with_reducible refine (c_deep (HM.out _ H9.out).kr (HM.out _ H9.out).k4).mono ?_); rintro e w10 ⟨rfl, hb10⟩; have h10 := bt H9.out hb10; have m10 := (HM.out w10 h10).k1; have s0 := m10.cell 0; have s1 := m10.cell 1; have s2 := m10.cell 2; have s3 := m10.cell 3; have s4 := m10.cell 4; have s5 := m10.cell 5; have H10 := Lib.hid h10; clear hb10 h10 m10)
    | (go_at_call 14; have _ := H8; (with_reducible refine (c_size (HM.out _ H8.out).kr (HM.out _ H8.out).k4).mono ?_); rintro e w9 ⟨rfl, hb9⟩; have h9 := bt H8.out hb9; have m9 := (HM.out w9 h9).kn; have r0 := m9.cell 0; have r1 := m9.cell 1; have r2 := m9.cell 2; have r3 := m9.cell 3; have r4 := m9.cell 4; have r5 := m9.cell 5; have H9 := Lib.hid h9; clear hb9 h9 m9)
    | (go_at_call 9; have _ := H7; (with_reducible refine (c_check (HM.out _ H7.out).kr).mono ?_); rintro e w8 ⟨rfl, hb8⟩; have h8 := bt H7.out hb8; have m8 := (HM.out w8 h8).kn; have q0 := m8.cell 0; have q1 := m8.cell 1; have q2 := m8.cell 2; have q3 := m8.cell 3; have q4 := m8.cell 4; have q5 := m8.cell 5; have H8 := Lib.hid h8; clear hb8 h8 m8)
    | (go_at_call 24; (with_reducible refine (c_parts (Blk.new w6 27 (nmC2 ⟨#[112]⟩ ⟨#[112]⟩))).mono ?_); rintro e w7 ⟨A7, c7, rfl, hb7⟩; have h7 := bt (al H6.out (.cells (nmC2 ⟨#[112]⟩ ⟨#[112]⟩) 27)) hb7; have m7 := (HM.out w7 h7).k3; have p0 := m7.cell 0; have p1 := m7.cell 1; have p2 := m7.cell 2; have p3 := m7.cell 3; have p4 := m7.cell 4; have p5 := m7.cell 5; have H7 := Lib.hid h7; clear hb7 h7 m7))
  go_ret
  exact ⟨rfl, bt HBW4.out H12.out⟩
end Go.Proofs.Ytnjkphopklbogaa
namespace Go.Proofs.Ytnjkphopklbogaa
open Go.RowKit

/-- A number of at most m. -/
def AtP (w : World) (m : Int) (e : Ending) (w' : World) : Prop := ∃ z : Int, e = .returned (.int .i64 z) ∧ z ≤ m ∧ Below w.heap.size w w'
set_option maxRecDepth 100000 in
set_option maxHeartbeats 8000000 in
theorem rf_terms : ∀ (n : Nat) (t : Ex), t.sz ≤ n → n ≤ 100000000 → ∀ A c (m : Int) w, Rep w.heap.size w A t → m ≤ 1000000000 →
    Calls Try.prog 55 #[exV t A c, .int .i64 m] w (AtP w m) := by
  intro n
  induction n with
  | zero => intro t h; have := sz_eq t; omega
  | succ n ih =>
    intro t ht hnn A c m w hR hm
    have HIH := Lib.hid ih
    have HR := Lib.hid hR
    have hkb : t.ks.length ≤ 1000000000 := by have := szL_len t.ks; have := sz_eq t; omega
    obtain ⟨W, hW⟩ : ∃ W, w.alloc (.cells #[.int .i64 t.op, .int .i64 t.vr, .string t.nm, .slice A t.ks.length c] 24) = W := ⟨_, rfl⟩
    have hk : Blk W w.heap.size 24 #[.int .i64 t.op, .int .i64 t.vr, .string t.nm, .slice A t.ks.length c] := by rw [← hW]; exact Blk.new _ _ _
    have hbW : Below w.heap.size w W := by rw [← hW]; exact bal _ _
    have HX : Hid (∀ wx, Below W.heap.size W wx → wx.cell? ⟨w.heap.size, 3, none⟩ = some (.slice A t.ks.length c) ∧ Below w.heap.size w wx) := Lib.hid (fun wx h => by
      have k := hk.below h hk.lt
      exact ⟨k.cell 3, bt hbW h⟩)
    have HWW := Lib.hid hW
    clear ih hR hk hbW hW
    show Calls Try.prog 55 #[.agg #[.int .i64 t.op, .int .i64 t.vr, .string t.nm, .slice A t.ks.length c], .int .i64 m] w _
    go_enter Try.func55, Try.ntmps55
    go_upto_region 1 with (fail)
    rw [HWW.out]
    go_wp2
    go_loopw [1, 5] (fun s1 i wr => ∃ (j : Nat) (z : Int), j ≤ t.ks.length ∧ i = .int .i64 (j : Int) ∧ s1 = .int .i64 z ∧ z ≤ m ∧ Below W.heap.size W wr) (fun _ i _ => t.ks.length - (intOf i).toNat)
    case atStart => exact ⟨0, m, Nat.zero_le _, rfl, rfl, by omega, Below.refl _ _⟩
    case round =>
      obtain ⟨j, z, hj, rfl, rfl, hz, hb⟩ := hrel
      obtain ⟨q3, hbw⟩ := HX.out _ hb
      by_cases hlt : j < t.ks.length
      · have l1 : (j : Int) < (t.ks.length : Int) := by omega
        by_cases h0 : 0 ≤ z
        · obtain ⟨b, f0, rfl, hbl, hc⟩ := HR.out.out (by omega)
          obtain ⟨ka, kc, c0, c1, c2, c3, hRk⟩ := hc j hlt
          have d0 := (hbw.cell (p := ⟨b, f0 + j * 4, none⟩) hbl).trans c0
          have d1 := (hbw.cell (p := ⟨b, f0 + j * 4 + 1, none⟩) hbl).trans c1
          have d2 := (hbw.cell (p := ⟨b, f0 + j * 4 + 2, none⟩) hbl).trans c2
          have d3 := (hbw.cell (p := ⟨b, f0 + j * 4 + 3, none⟩) hbl).trans c3
          have hu := kd_sz hlt
          have HC := Lib.hid (HIH.out (kd t.ks j) (by omega) (by omega) ka kc (z - 1) wr (hRk.step hbw) (by omega))
          have hgz : ¬ z < 0 := by omega
          clear hc c0 c1 c2 c3 hRk hu
          generalize kd t.ks j = u at *
          go_wp2_with (go_at_call 55; (with_reducible refine HC.out.mono ?_); rintro e w3 ⟨z3, rfl, hz3, hb3⟩; have HZ3 := Lib.hid hz3; have HB3 := Lib.hid (bt hb hb3); clear hz3 hb3)
          go_roundw
          case rel => exact ⟨j + 1, z3, by omega, by go_num, rfl, by have := HZ3.out; omega, HB3.out⟩
          case measure => simp [intOf]; try omega
        · have hgz : z < 0 := by omega
          have hg0 : ¬ 0 ≤ z := h0
          go_wp2
          go_ret
          exact ⟨z, rfl, hz, hbw⟩
      · have l1 : ¬ (j : Int) < (t.ks.length : Int) := by omega
        go_wp2
        go_ret
        exact ⟨z, rfl, hz, hbw⟩
set_option maxRecDepth 100000 in
set_option maxHeartbeats 8000000 in
theorem rf_left : ∀ (n : Nat) (t : Fx), t.sz ≤ n → n ≤ 100000000 → ∀ E dd A c (m : Int) w, Fm w.heap.size w t E A → 0 ≤ m → m ≤ 1000000000 →
    Calls Try.prog 28 #[fV t E dd A c, .int .i64 m] w (AtP w m) := by
  intro n
  induction n with
  | zero => intro t h; have := fsz_pos t; omega
  | succ n ih =>
    intro t ht hnn E dd A c m w hR hm0 hm
    have HIH := Lib.hid ih
    have HR := Lib.hid hR
    have hes := fe_sz t
    have hkb : t.ks.length ≤ 1000000000 := by have := fkl_sz t; omega
    have HAL : Hid (∀ o, Below w.heap.size w (w.alloc o)) := Lib.hid (fun o => bal _ _)
    have HF := Lib.hid (fal t E A dd c w)
    obtain ⟨W, hW⟩ : ∃ W, w.alloc (.cells (fC t E dd A c) 27) = W := ⟨_, rfl⟩
    have HT : Hid (Calls Try.prog 55 #[exV t.e E dd, .int .i64 (m - 1)] W (AtP W (m - 1))) := Lib.hid (rf_terms t.e.sz t.e (Nat.le_refl _) (by omega) E dd (m - 1) W (by rw [← hW]; exact hR.1.step (bal _ _)) (by omega))
    have HX : Hid (∀ wx, Below W.heap.size W wx → FAt wx w.heap.size 0 t E dd A c ∧ Below w.heap.size w wx) := Lib.hid (fun wx hb => by rw [← hW] at hb; exact ⟨HF.out.below hb (by simp), bt (HAL.out _) hb⟩)
    have HWW := Lib.hid hW
    obtain ⟨p0, p1, p2, p3, p4, p5⟩ := (HX.out W (Below.refl _ _)).1
    clear ih hR hW
    go_enter Try.func28, Try.ntmps28
    go_upto_region 1 with (fail)
    try rw [HWW.out]
    go_wp2_with (go_at_call 55; (with_reducible refine HT.out.mono ?_); rintro e w1 ⟨z1, rfl, hz1, hb1⟩; have HZ1 := Lib.hid hz1; have HB1 := Lib.hid hb1; clear hz1 hb1)
    go_loopw [1, 5] (fun s1 i wr => ∃ (j : Nat) (z : Int), j ≤ t.ks.length ∧ i = .int .i64 (j : Int) ∧ s1 = .int .i64 z ∧ z ≤ m ∧ Below W.heap.size W wr) (fun _ i _ => t.ks.length - (intOf i).toNat)
    case atStart => exact ⟨0, z1, Nat.zero_le _, rfl, rfl, by have := HZ1.out; omega, HB1.out⟩
    case round =>
      obtain ⟨j, z, hj, rfl, rfl, hz, hb⟩ := hrel
      obtain ⟨⟨q0, q1, q2, q3, q4, q5⟩, hbw⟩ := HX.out _ hb
      by_cases hlt : j < t.ks.length
      · have l1 : (j : Int) < (t.ks.length : Int) := by omega
        by_cases h0 : 0 ≤ z
        · obtain ⟨b, f0, rfl, hbl, hc⟩ := HR.out.2.out (by omega)
          obtain ⟨ea, ec, ka, kc, hAt, hRe, hRk⟩ := hc j hlt
          obtain ⟨d0, d1, d2, d3, d4, d5⟩ := hAt.below hbw hbl
          have HRk : Hid (Fm wr.heap.size wr (fkd t.ks j) ea ka) := Lib.hid ⟨hRe.step hbw, hRk.step hbw⟩
          have hu := fkd_sz hlt
          have HC := Lib.hid (HIH.out (fkd t.ks j) (by omega) (by omega) ea ec ka kc z wr HRk.out h0 (by omega))
          have hgz : ¬ z < 0 := by omega
          clear hc hAt hRe hRk hu
          generalize fkd t.ks j = u at *
          go_wp2_with (go_at_call 28; (with_reducible refine HC.out.mono ?_); rintro e w3 ⟨z3, rfl, hz3, hb3⟩; have HZ3 := Lib.hid hz3; have HB3 := Lib.hid (hb.trans (hb3.mono hb.size)); clear hz3 hb3)
          go_roundw
          case rel => exact ⟨j + 1, z3, by omega, by go_num, rfl, by have := HZ3.out; omega, HB3.out⟩
          case measure => simp [intOf]; try omega
        · have hgz : z < 0 := by omega
          have hg0 : ¬ 0 ≤ z := h0
          go_wp2
          go_ret
          exact ⟨z, rfl, hz, hbw⟩
      · have l1 : ¬ (j : Int) < (t.ks.length : Int) := by omega
        go_wp2
        go_ret
        exact ⟨z, rfl, hz, hbw⟩
set_option maxHeartbeats 1000000 in
theorem rf_Many (t : Fx) (E A : Option Addr) (dd c : Nat) (m : Int) (w : World) (hs : t.sz ≤ 100000000) (hR : Fm w.heap.size w t E A) (h0 : 0 ≤ m) (hm : m ≤ 1000000000) :
    Calls Try.prog 7 #[fV t E dd A c, .int .i64 m] w fun e w' => ∃ b : Bool, ValP w b e w' := by
  have HAL : Hid (∀ o, Below w.heap.size w (w.alloc o)) := Lib.hid (fun o => bal _ _)
  have HC : Hid (Calls Try.prog 28 #[fV t E dd A c, .int .i64 m] (w.alloc (.cells (fC t E dd A c) 27)) (AtP (w.alloc (.cells (fC t E dd A c) 27)) m)) := Lib.hid (rf_left t.sz t (Nat.le_refl _) hs E dd A c m _ (hR.step (bal _ _)) h0 hm)
  obtain ⟨p0, p1, p2, p3, p4, p5⟩ := fal t E A dd c w
  clear hR
  go_enter Try.func7, Try.ntmps7
  go_wp2_with (go_at_call 28; (with_reducible refine HC.out.mono ?_); rintro e w1 ⟨z, rfl, hz1, hb1⟩; have HB1 := Lib.hid hb1; clear hb1)
  go_ret
  exact ⟨_, rfl, bt (HAL.out _) HB1.out⟩
end Go.Proofs.Ytnjkphopklbogaa
