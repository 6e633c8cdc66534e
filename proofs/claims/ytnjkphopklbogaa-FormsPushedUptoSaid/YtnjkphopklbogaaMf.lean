/- collect of formulas, the first step of Parts; layer 32 (forms). Structural equality of formulas; EqualFunc and Same; layer 32 (forms). ContainsFunc and the closure of Parts; layer 32 (forms). push of an implication; layer 32 (forms). push of an implication; layer 32 (forms). push of a term and of a negation, of the program and of the specification; layer 32 (forms). A node over two pushed ones in a local box; layer 32 (forms). push of the operators with a dual, the specification's; layer 32 (forms). Parts of layer 32 (forms), the program's. -/
import Derived.Test.YtnjkphopklbogaaMe
import Derived.Test.YtnjkphopklbogaaMd
import Derived.Test.YtnjkphopklbogaaMc
namespace Go.Proofs.Ytnjkphopklbogaa
open Go.RowKit

mutual
/-- The formula and all that is nested in it, in pre-order. -/
def preF : Fx → List Fx | .mk o e ks => .mk o e ks :: preL ks
def preL : List Fx → List Fx
  | [] => []
  | t :: r => preF t ++ preL r
end
theorem preF_eq (t : Fx) : preF t = t :: preL t.ks := by cases t; rfl
mutual
theorem preF_len : ∀ t : Fx, (preF t).length ≤ t.sz
  | .mk o e ks => by
    have h := preL_len ks
    have hz : (Fx.mk o e ks).sz = e.sz + fszL ks := rfl
    have hp := sz_pos e
    show (Fx.mk o e ks :: preL ks).length ≤ _
    rw [List.length_cons]
    omega
theorem preL_len : ∀ l : List Fx, (preL l).length ≤ fszL l
  | [] => Nat.le_refl _
  | t :: r => by
    have h1 := preF_len t
    have h2 := preL_len r
    have hz : fszL (t :: r) = t.sz + fszL r := rfl
    show (preF t ++ preL r).length ≤ _
    rw [List.length_append]
    omega
end
mutual
theorem preF_sz : ∀ (t u : Fx), u ∈ preF t → u.sz ≤ t.sz
  | .mk o e ks, u, h => by
    have hz : (Fx.mk o e ks).sz = e.sz + fszL ks := rfl
    rw [preF_eq] at h
    rcases List.mem_cons.1 h with rfl | h2
    · exact Nat.le_refl _
    · have := preL_sz ks u h2; omega
theorem preL_sz : ∀ (l : List Fx) (u : Fx), u ∈ preL l → u.sz ≤ fszL l
  | [], u, h => by cases h
  | t :: r, u, h => by
    have hz : fszL (t :: r) = t.sz + fszL r := rfl
    rcases List.mem_append.1 h with h2 | h2
    · have := preF_sz t u h2; omega
    · have := preL_sz r u h2; omega
end
def stQ (s : List Fx) (t : Fx) (_ : Int) : List Fx × Bool := (s ++ [t], true)
mutual
theorem fvis_pre : ∀ (t : Fx) (d : Int) (s : List Fx), fvis stQ t d s = (s ++ preF t, true)
  | .mk o e ks, d, s => by
    rw [fvis_eq]
    show (if true = true then fvisL stQ ks (d + 1) (s ++ [Fx.mk o e ks]) else (s ++ [Fx.mk o e ks], false)) = _
    rw [if_pos rfl, fvisL_pre ks (d + 1) (s ++ [Fx.mk o e ks])]
    show (s ++ [Fx.mk o e ks] ++ preL ks, true) = (s ++ (Fx.mk o e ks :: preL ks), true)
    simp
theorem fvisL_pre : ∀ (l : List Fx) (d : Int) (s : List Fx), fvisL stQ l d s = (s ++ preL l, true)
  | [], d, s => by show (s, true) = (s ++ [], true); simp
  | t :: r, d, s => by
    show (if (fvis stQ t d s).2 then fvisL stQ r d (fvis stQ t d s).1 else ((fvis stQ t d s).1, false)) = _
    rw [fvis_pre t d s]
    show fvisL stQ r d (s ++ preF t) = _
    rw [fvisL_pre r d (s ++ preF t)]
    show (s ++ preF t ++ preL r, true) = (s ++ (preF t ++ preL r), true)
    simp
end
def PkF (w : World) (t : Fx) (E A : Option Addr) (d c : Nat) (e : Ending) (w' : World) : Prop := ∃ g, e = .returned (.slice (some ⟨g, 0, none⟩) 1 1) ∧ Blk w' g 27 (fC t E d A c) ∧ Below w.heap.size w w'
theorem pr_parts1 (t : Fx) (E A : Option Addr) (dd c : Nat) (d : Int) (w : World) : Calls Try.prog 49 #[fV t E dd A c, .int .i64 d] w (PkF w t E A dd c) := by
  have HB : Hid (Blk ((w.alloc (.cells (fC t E dd A c) 27)).alloc (.cells (fC t E dd A c) 27)) (w.heap.size + 1) 27 (fC t E dd A c)) := Lib.hid (by
    have h := Blk.new (w.alloc (.cells (fC t E dd A c) 27)) 27 (fC t E dd A c)
    have e : (w.alloc (.cells (fC t E dd A c) 27)).heap.size = w.heap.size + 1 := by simp
    rw [e] at h
    exact h)
  have HAL : Hid (∀ o1 o2, Below w.heap.size w ((w.alloc o1).alloc o2)) := Lib.hid (fun o1 o2 => bt (bal _ _) (bal _ _))
  obtain ⟨p0, p1, p2, p3, p4, p5⟩ := fal t E A dd c w
  go_enter Try.func49, Try.ntmps49
  go_wp2
  go_ret
  exact ⟨w.heap.size + 1, rfl, HB.out, HAL.out _ _⟩
/-- The state of collect: a row of formulas, what they hold below B. -/
def InQ (B bp bq : Nat) : Inv (List Fx) := fun S s w => B ≤ w.heap.size ∧ ∃ ea ka ec kc, InL 25 27 6 65 (.func (.func 49) #[] #[]) bp bq S (csF s ea ka ec kc) s.length w ∧ ∀ i, i < s.length → Fm B w (fkd s i) (ea i) (ka i)
theorem InQ.kept (B bp bq : Nat) : KeptI (InQ B bp bq) where
  step := fun S s w w' h hb => by
    obtain ⟨hB, ea, ka, ec, kc, h1, h2⟩ := h
    exact ⟨Nat.le_trans hB hb.size, ea, ka, ec, kc, (InL.kept (σ := Unit) (fun _ => csF s ea ka ec kc) (fun _ => s.length)).step S () w w' h1 hb, fun i hi => (h2 i hi).under (hb.mono hB)⟩
  narrow := fun S s w hh h hw => by
    obtain ⟨hB, ea, ka, ec, kc, h1, h2⟩ := h
    exact ⟨hB, ea, ka, ec, kc, (InL.kept (σ := Unit) (fun _ => csF s ea ka ec kc) (fun _ => s.length)).narrow S () w hh h1 hw, h2⟩
  widen := fun S S' s w h hs => by
    obtain ⟨hB, ea, ka, ec, kc, h1, h2⟩ := h
    exact ⟨hB, ea, ka, ec, kc, (InL.kept (σ := Unit) (fun _ => csF s ea ka ec kc) (fun _ => s.length)).widen S S' () w h1 hs, h2⟩
set_option maxRecDepth 100000 in
set_option maxHeartbeats 8000000 in
theorem pr_colF (B bp bq : Nat) (S : Nat → Prop) (s : List Fx) (w : World) (t : Fx) (E A : Option Addr) (dd c : Nat) (d : Int) (hI : InQ B bp bq S s w) (hS : ∀ b, b < B → ¬ S b) (hF : ∀ b, w.heap.size ≤ b → S b) (hB : B ≤ w.heap.size) (hR : Fm B w t E A) (hl : s.length ≤ 100000000) :
    Calls Try.prog 75 #[fV t E dd A c, .int .i64 d, .pointer (some ⟨bp, 0, none⟩), .pointer (some ⟨bq, 0, none⟩)] w (VisP (InQ B bp bq) S w (stQ s t d)) := by
  obtain ⟨_, ea, ka, ec, kc, ⟨h1, h2, h3, v, p1, p2, p3, p4⟩, hk⟩ := hI
  obtain ⟨R, hRR⟩ : ∃ R, stQ s t d = R := ⟨_, rfl⟩
  have HR : Hid (R = (s ++ [t], true)) := Lib.hid hRR.symm
  rw [hRR]
  clear hRR
  obtain ⟨Av, cv, rfl⟩ := owns_slice p3
  obtain ⟨W0, hW0⟩ : ∃ W0, w.alloc (.cells (fC t E dd A c) 27) = W0 := ⟨_, rfl⟩
  have hb0 : Below w.heap.size w W0 := by rw [← hW0]; exact bal _ _
  have hat0 := fal t E A dd c w
  rw [hW0] at hat0
  have HPK : Hid (∀ wx, Below W0.heap.size W0 wx → Calls Try.prog 49 #[fV t E dd A c, .int .i64 d] wx fun e w' => PkF wx t E A dd c e w' ∧ Below W0.heap.size W0 w') := Lib.hid (fun wx hb => (pr_parts1 t E A dd c d wx).mono (fun e w' h => ⟨h, by obtain ⟨g, _, _, h4⟩ := h; exact bt hb h4⟩))
  have e0 : W0.cell? ⟨bp, 0, none⟩ = some (.slice Av s.length cv) := (p1.below hb0 p1.lt).cell 0
  have e1 : W0.cell? ⟨bq, 0, none⟩ = some (.func (.func 49) #[] #[]) := (p2.below hb0 p2.lt).cell 0
  have hbp : bp < W0.heap.size := Nat.lt_of_lt_of_le p1.lt hb0.size
  have hbq : bq < W0.heap.size := Nat.lt_of_lt_of_le p2.lt hb0.size
  obtain ⟨cs, hcs⟩ : ∃ cs, csF s ea ka ec kc = cs := ⟨_, rfl⟩
  rw [hcs] at p3
  have HP : Hid (∀ w5 w8 A8 c8, Below W0.heap.size W0 w5 → w5.grownBy w8 (Value.slice Av s.length cv).ownBlock → w8.ownsRow 0 27 6 (.slice A8 (s.length + 1) c8) (s.length + 1) (cs ++ (fC t E dd A c).toList) → (∀ k, (Value.slice A8 (s.length + 1) c8).ownBlock = some k → (Value.slice Av s.length cv).ownBlock = some k ∨ k = w5.heap.size) →
      Blk w8 bp 25 #[.slice Av s.length cv] ∧ InQ B bp bq S (s ++ [t]) (w8.setCell ⟨bp, 0, none⟩ (.slice A8 (s.length + 1) c8)) ∧ Frm S w (w8.setCell ⟨bp, 0, none⟩ (.slice A8 (s.length + 1) c8))) := Lib.hid (fun w5 w8 A8 c8 hb hg ho hat => by
    have h := InL.push hF h1 h2 h3 p1 p2 p3 p4 (hb0.trans (hb.mono hb0.size)) hg ho hat
    have hfb : Below B w (w8.setCell ⟨bp, 0, none⟩ (.slice A8 (s.length + 1) c8)) := h.2.2.below2 hS hB
    refine ⟨h.1, ⟨Nat.le_trans hB hfb.size, fun i => if i = s.length then E else ea i, fun i => if i = s.length then A else ka i, fun i => if i = s.length then dd else ec i, fun i => if i = s.length then c else kc i, ?_, fun i hi => ?_⟩, h.2.2⟩
    · rw [csF_snoc, hcs, List.length_append]
      exact h.2.1
    · by_cases e : i = s.length
      · subst e
        rw [fkd_app_eq]
        simp only [if_pos]
        exact hR.under hfb
      · have hi2 : i < s.length := by rw [List.length_append, List.length_singleton] at hi; omega
        rw [fkd_app_lt hi2]
        simp only [if_neg e]
        exact (hk i hi2).under hfb)
  have HO : Hid (∀ w5, Below W0.heap.size W0 w5 → w5.ownsRow 0 27 6 (.slice Av s.length cv) s.length cs) := Lib.hid (fun w5 hb => own_keepG p3 (hb0.trans (hb.mono hb0.size)))
  have HW0 := Lib.hid hW0
  clear p1 p2 p3 p4 hb0 hW0 h1 h2 h3 hF hS hB hR hk hcs
  go_enter Try.func75, Try.ntmps75
  go_upto_region 1 with (fail)
  rw [HW0.out]
  obtain ⟨c0, c1, c2, c3, c4, c5⟩ := hat0
  obtain ⟨h0, hh0⟩ : ∃ h0, w.heap.size = h0 := ⟨_, rfl⟩
  have hlt0 : h0 < W0.heap.size := by rw [← hh0, ← HW0.out]; simp
  rw [hh0] at c0 c1 c2 c3 c4 c5 ⊢
  go_region_law (first
    | (refine step_app_row Try.underlying25 info27 rfl (by decide) (by decide) (by rfl) (.tmp 7) (.tmp 11) (by rfl) 0 s.length (.slice Av s.length cv) cs (by rfl) (HO.out _ HQ5.out) ⟨g5, 0, none⟩ 1 1 (fC t E dd A c).toList (by rfl) (by rfl) HC5.out (by simp [Value.oneCell']) (Nat.zero_le _) (by omega) ?_; intro A8 c8 w8 hO8 hg8 ha8; obtain ⟨k8, i8, f8⟩ := HP.out _ _ _ _ HQ5.out hg8 hO8 ha8; have q0 : w8.cell? ⟨bp, 0, none⟩ = some (.slice Av s.length cv) := k8.cell 0; have q1 := k8.lt; have q2 := k8.frozen 0; have I8 := Lib.hid i8; have F8 := Lib.hid f8; clear hO8 hg8 ha8 k8 i8 f8)
    | (go_simp; go_at_call 49; (with_reducible refine (HPK.out _ (by first | exact (Below.refl _ _).drew | exact Below.refl _ _)).mono ?_); rintro e w5 ⟨⟨g5, rfl, hc5, _⟩, hb5⟩; have d0 : w5.cell? ⟨bp, 0, none⟩ = some (.slice Av s.length cv) := (hb5.cell (p := ⟨bp, 0, none⟩) hbp).trans e0; have HC5 : Hid (∀ j u, (fC t E dd A c).toList[j]? = some u → w5.cell? ((⟨g5, 0, none⟩ : Addr).add j) = some u) := Lib.hid (fun j u hj => by rw [adr_add, Nat.zero_add, hc5.cell j]; simpa using hj); have HQ5 := Lib.hid hb5; clear hb5 hc5))
  all_goals
    go_wp2
    go_ret
    rw [HR.out]
    exact ⟨rfl, I8.out, F8.out⟩
/-- The nodes of a valid formula, or none. -/
def prtF (t : Fx) : List Fx := if chkF t ≠ 0 then [] else preF t
def ColF (w : World) (l : List Fx) (e : Ending) (w' : World) : Prop := ∃ A c, e = .returned (.slice A l.length c) ∧ RowG (fun x => x < w.heap.size) w' w.heap.size (.slice A l.length c) l.length l ∧ Below w.heap.size w w'
set_option maxRecDepth 100000 in
set_option maxHeartbeats 8000000 in
theorem pr_collectF (t : Fx) (E A : Option Addr) (dd c : Nat) (w : World) (hs : t.sz ≤ 100000000) (hR : Fm w.heap.size w t E A) :
    Calls Try.prog 48 #[fV t E dd A c, .func (.func 49) #[] #[]] w (ColF w (prtF t)) := by
  obtain ⟨W2, hW2⟩ : ∃ W2, (w.alloc (.cells (fC t E dd A c) 27)).alloc (.cells #[.func (.func 49) #[] #[]] 65) = W2 := ⟨_, rfl⟩
  have hz1 : (w.alloc (.cells (fC t E dd A c) 27)).heap.size = w.heap.size + 1 := by simp
  have hb2 : Below w.heap.size w W2 := by rw [← hW2]; exact bt (bal _ _) (bal _ _)
  have hat2 : FAt W2 w.heap.size 0 t E dd A c := by rw [← hW2]; exact (fal t E A dd c w).below (bal _ _) (by simp)
  have hq2 : Blk W2 (w.heap.size + 1) 65 #[.func (.func 49) #[] #[]] := by rw [← hW2, ← hz1]; exact Blk.new _ _ _
  have HCH := Lib.hid (pr_fCheck t E A dd c W2 hs (hR.step hb2))
  have HW2 := Lib.hid hW2
  by_cases hc : chkF t = 0
  · rw [show prtF t = preF t from if_neg (by simpa using hc)]
    rw [hc] at HCH
    obtain ⟨D, hD⟩ : ∃ D, preF t = D := ⟨_, rfl⟩
    rw [hD]
    have HV : Hid (∀ w1 : World, Below W2.heap.size W2 w1 → Calls Try.prog 30 #[fV t E dd A c, .int .i64 1, .func (.func 75) #[] #[.pointer (some ⟨w1.heap.size, 0, none⟩), .pointer (some ⟨w.heap.size + 1, 0, none⟩)]] (w1.alloc (.cells #[.slice none 0 0] 25)) (VisP (InQ w.heap.size w1.heap.size (w.heap.size + 1)) (fun b => w.heap.size ≤ b) (w1.alloc (.cells #[.slice none 0 0] 25)) (D, true))) := Lib.hid (fun w1 hb1 => by
      have hq1 : Blk w1 (w.heap.size + 1) 65 #[.func (.func 49) #[] #[]] := hq2.below hb1 hq2.lt
      have hlt := hq1.lt
      have hbw : Below w.heap.size w (w1.alloc (.cells #[.slice none 0 0] 25)) := hb2.trans ((hb1.trans ((bal w1 (.cells #[.slice none 0 0] 25)).mono hb1.size)).mono hb2.size)
      have h := pr_fvisit 75 _ (InQ w.heap.size w1.heap.size (w.heap.size + 1)) stQ w.heap.size (.pointer (some ⟨w1.heap.size, 0, none⟩)) (.pointer (some ⟨w.heap.size + 1, 0, none⟩)) List.length 100000000 (fun s t d => by show (s ++ [t]).length ≤ _; have := sz_pos t.e; rw [List.length_append]; simp; omega) (.inr (.inr (.inr (.inl ⟨rfl, rfl⟩)))) (InQ.kept _ _ _) (fun S s w t E eC A c d hI hS hF hB hR _ _ _ hm => pr_colF _ _ _ S s w t E A eC c d hI hS hF hB hR (by have := sz_pos t.e; omega)) t.sz t (Nat.le_refl _) hs E dd A c 1 (fun b => w.heap.size ≤ b) [] (w1.alloc (.cells #[.slice none 0 0] 25))
        ⟨hbw.size, fun _ => none, fun _ => none, fun _ => 0, fun _ => 0, ⟨by omega, by omega, by omega, .slice none 0 0, Blk.new _ _ _, hq1.alloc _, ⟨rfl, .inl ⟨rfl, rfl⟩⟩, fun k hk => by cases hk⟩, fun i hi => absurd hi (by simp)⟩ (fun b hb h => by omega) (fun b hb => by have := hbw.size; omega) hbw.size (hR.under hbw) (by omega) (by omega) (by simpa using hs)
      rw [fvis_pre, List.nil_append, hD] at h
      exact h)
    have HX : Hid (∀ w1, Below W2.heap.size W2 w1 → FAt (w1.alloc (.cells #[.slice none 0 0] 25)) w.heap.size 0 t E dd A c ∧ Below w.heap.size w (w1.alloc (.cells #[.slice none 0 0] 25))) := Lib.hid (fun w1 hb1 => ⟨(hat2.below hb1 (by have := hq2.lt; omega)).below (bal _ _) (by have := hq2.lt; have := hb1.size; omega), hb2.trans ((hb1.trans ((bal w1 (.cells #[.slice none 0 0] 25)).mono hb1.size)).mono hb2.size)⟩)
    obtain ⟨p0, p1, p2, p3, p4, p5⟩ := hat2
    clear hb2 hq2 hR hc hD hW2 hz1
    go_enter Try.func48, Try.ntmps48
    go_upto_region 1 with (fail)
    rw [HW2.out]
    go_wp2_with (first
      | (go_at_call 30; have _ := HB1; (with_reducible refine (HV.out _ HB1.out).mono ?_); rintro e w3 ⟨rfl, hI3, hf3⟩; obtain ⟨hB3, ea, ka, ec, kc, ⟨_, _, hne, v, k1, k2, k3, k4⟩, hk3⟩ := hI3; obtain ⟨A3, c3, rfl⟩ := owns_slice k3; have q0 : w3.cell? ⟨w1.heap.size, 0, none⟩ = some (.slice A3 (List.length D) c3) := k1.cell 0; have K3 := Lib.hid k3; have K4 := Lib.hid k4; have HK3 := Lib.hid hk3; have HB3 := Lib.hid hB3; have HF3 := Lib.hid ((HX.out _ HB1.out).2.trans (hf3.below2 (fun k hk h => by omega) (HX.out _ HB1.out).2.size)); clear k1 k2 k3 k4 hf3 hk3 hB3)
      | (go_at_call 9; (with_reducible refine HCH.out.mono ?_); rintro e w1 ⟨rfl, hb1⟩; have HB1 := Lib.hid hb1; obtain ⟨r0, r1, r2, r3, r4, r5⟩ := (HX.out _ hb1).1; clear hb1))
    go_ret
    refine ⟨A3, c3, rfl, ⟨rfl, ea, ka, ec, kc, own_more K3.out (fun k hk => (K4.out k hk).1), fun i hi => (HK3.out i hi).toS.mono (fun x hx => ⟨⟨hx, by have := HB3.out; omega⟩, fun e => by have h : w.heap.size ≤ x := (K4.out x e).1; omega⟩)⟩, HF3.out⟩
  · rw [show prtF t = [] from if_pos hc]
    obtain ⟨z, hz⟩ : ∃ z, chkF t = z := ⟨_, rfl⟩
    rw [hz] at HCH hc
    have hz2 : (z != 0) = true := by simp [hc]
    obtain ⟨p0, p1, p2, p3, p4, p5⟩ := hat2
    have HB2 := Lib.hid hb2
    clear hb2 hq2 hR hc hz hW2 hz1
    go_enter Try.func48, Try.ntmps48
    go_upto_region 1 with (fail)
    rw [HW2.out]
    go_wp2_with (go_at_call 9; (with_reducible refine HCH.out.mono ?_); rintro e w1 ⟨rfl, hb1⟩; have HB1 := Lib.hid (HB2.out.trans (hb1.mono HB2.out.size)); clear hb1)
    go_ret
    exact ⟨none, 0, rfl, RowG.nil _ _ _, HB1.out⟩
end Go.Proofs.Ytnjkphopklbogaa
namespace Go.Proofs.Ytnjkphopklbogaa
open Go.RowKit Go.PlainAid

mutual
def eqF : Fx → Fx → Bool | .mk o e ks, u => o == u.op && (eqE e u.e && eqFL ks u.ks)
def eqFL : List Fx → List Fx → Bool
  | [], l => l.isEmpty
  | t :: r, l => match l with
    | [] => false
    | u :: s => eqF t u && eqFL r s
end
theorem eqF_eq (t u : Fx) : eqF t u = (t.op == u.op && (eqE t.e u.e && eqFL t.ks u.ks)) := by cases t; rfl
mutual
theorem eqF_refl : ∀ t : Fx, eqF t t = true
  | .mk o e ks => by
    show (o == o && (eqE e e && eqFL ks ks)) = true
    rw [eqFL_refl ks, eqE_refl e]
    simp
theorem eqFL_refl : ∀ l : List Fx, eqFL l l = true
  | [] => rfl
  | t :: r => by
    show (eqF t t && eqFL r r) = true
    rw [eqF_refl t, eqFL_refl r]; rfl
end
theorem eqFL_ln : ∀ l m : List Fx, eqFL l m = true → l.length = m.length
  | [], [], _ => rfl
  | [], u :: s, h => by cases h
  | t :: r, [], h => by cases h
  | t :: r, u :: s, h => by
    have h2 : (eqF t u && eqFL r s) = true := h
    simp only [Bool.and_eq_true] at h2
    simp [eqFL_ln r s h2.2]
theorem eqFL_len {l m : List Fx} (h : l.length ≠ m.length) : eqFL l m = false := by
  cases e : eqFL l m with
  | false => rfl
  | true => exact absurd (eqFL_ln l m e) h
theorem eqFL_step {l m : List Fx} {i : Nat} (h : i < l.length) (h2 : i < m.length) : eqFL (l.drop i) (m.drop i) = (eqF (fkd l i) (fkd m i) && eqFL (l.drop (i + 1)) (m.drop (i + 1))) := by
  rw [fkd_drop h, fkd_drop h2]; rfl
def EqF (f : Nat) (ks us : List Fx) : Prop := ∀ i, i < ks.length → ∀ E dd A c E2 d2 B d w, Fm w.heap.size w (fkd ks i) E A → Fm w.heap.size w (fkd us i) E2 B → Calls Try.prog f #[fV (fkd ks i) E dd A c, fV (fkd us i) E2 d2 B d] w (ValP w (eqF (fkd ks i) (fkd us i)))
set_option maxRecDepth 100000 in
set_option maxHeartbeats 8000000 in
theorem pr_fEqualFunc (t u : Fx) (A B : Option Addr) (c d : Nat) (w : World) (hA : RepF w.heap.size w A t) (hB : RepF w.heap.size w B u) (ht : t.ks.length ≤ 1000000000) (hS : EqF 26 t.ks u.ks) :
    Calls Try.prog 54 #[.slice A t.ks.length c, .slice B u.ks.length d, .func (.func 26) #[] #[]] w (ValP w (eqFL t.ks u.ks)) := by
  have HA := Lib.hid hA
  have HB := Lib.hid hB
  have HS := Lib.hid hS
  clear hA hB hS
  by_cases hl : t.ks.length = u.ks.length
  · have hne : ((t.ks.length : Int) != (u.ks.length : Int)) = false := by simp [hl]
    have hle : t.ks.length ≤ u.ks.length := by omega
    have hle2 : u.ks.length ≤ t.ks.length := by omega
    clear hl
    obtain ⟨R, hR⟩ : ∃ R, eqFL t.ks u.ks = R := ⟨_, rfl⟩
    have HR0 : Hid (eqFL (t.ks.drop 0) (u.ks.drop 0) = R) := Lib.hid hR
    rw [hR]
    clear hR
    go_enter Try.func54, Try.ntmps54
    go_wp2
    go_loopw [17] (fun i wr => ∃ k : Nat, k ≤ t.ks.length ∧ i = .int .i64 (k : Int) ∧ Hid (eqFL (t.ks.drop k) (u.ks.drop k) = R) ∧ Hid (Below w.heap.size w wr)) (fun i _ => t.ks.length - (intOf i).toNat)
    case atStart => exact ⟨0, Nat.zero_le _, rfl, HR0, Lib.hid (Below.refl _ _)⟩
    case round =>
      obtain ⟨k, hk, rfl, HV, HW⟩ := hrel
      have hk0 : (0 : Int) ≤ (k : Int) := by omega
      by_cases hlt : k < t.ks.length
      · have hlt2 : k < u.ks.length := by omega
        have h1 : (k : Int) < (t.ks.length : Int) := by omega
        have h2 : (k : Int) < (u.ks.length : Int) := by omega
        obtain ⟨b, f0, rfl, hb, hc⟩ := HA.out.out (by omega)
        obtain ⟨b2, f2, rfl, hb2, hc2⟩ := HB.out.out (by omega)
        obtain ⟨ea, ec, ka, kc, hAt, hRe, hRk⟩ := hc k hlt
        obtain ⟨ea2, ec2, ka2, kc2, hAt2, hRe2, hRk2⟩ := hc2 k hlt2
        obtain ⟨d0, d1, d2, d3, d4, d5⟩ := hAt.below HW.out hb
        obtain ⟨e0, e1, e2, e3, e4, e5⟩ := hAt2.below HW.out hb2
        have hzr := HW.out.size
        have g1 : b < wr.heap.size := by omega
        have g2 : b2 < wr.heap.size := by omega
        have hst := eqFL_step hlt hlt2
        rw [HV.out] at hst
        have HC : Hid (∀ wx, Below wr.heap.size wr wx → Calls Try.prog 26 #[fV (fkd t.ks k) ea ec ka kc, fV (fkd u.ks k) ea2 ec2 ka2 kc2] wx (ValP wx (eqF (fkd t.ks k) (fkd u.ks k)))) := Lib.hid (fun wx hx => HS.out k hlt ea ec ka kc ea2 ec2 ka2 kc2 wx ⟨(hRe.step HW.out).step hx, (hRk.step HW.out).step hx⟩ ⟨(hRe2.step HW.out).step hx, (hRk2.step HW.out).step hx⟩)
        have HAL : Hid (∀ o1 o2, Below wr.heap.size wr ((wr.alloc o1).alloc o2)) := Lib.hid (fun o1 o2 => bt (bal _ _) (bal _ _))
        obtain ⟨q, hq⟩ : ∃ q, eqF (fkd t.ks k) (fkd u.ks k) = q := ⟨_, rfl⟩
        rw [hq] at HC hst
        have HST := Lib.hid hst
        clear hst hq hc hc2 hAt hAt2 hRe hRe2 hRk hRk2 hb hb2 hzr
        generalize fkd t.ks k = x1 at *
        generalize fkd u.ks k = x2 at *
        cases q
        · have X : Hid (R = false) := Lib.hid HST.out
          go_wp2_with (go_at_call 26; (with_reducible refine (HC.out _ (HAL.out _ _)).mono ?_); rintro e w2 ⟨rfl, hb2⟩; have HB2 := Lib.hid hb2; clear hb2)
          go_ret
          exact ⟨by rw [X.out]; rfl, HW.out.trans ((bt (HAL.out _ _) HB2.out).mono HW.out.size)⟩
        · have X : Hid (eqFL (t.ks.drop (k + 1)) (u.ks.drop (k + 1)) = R) := Lib.hid (by have := HST.out; simpa using this.symm)
          go_wp2_with (go_at_call 26; (with_reducible refine (HC.out _ (HAL.out _ _)).mono ?_); rintro e w2 ⟨rfl, hb2⟩; have HB2 := Lib.hid hb2; clear hb2)
          exact ⟨⟨k + 1, by omega, by go_num, X, Lib.hid (HW.out.trans ((bt (HAL.out _ _) HB2.out).mono HW.out.size))⟩, by simp [intOf]; omega⟩
      · have X : Hid (R = true) := Lib.hid (by
          have := HV.out
          rw [List.drop_of_length_le (by omega), List.drop_of_length_le (by omega)] at this
          rw [← this]; rfl)
        go_wp2
        go_ret
        exact ⟨by rw [X.out]; rfl, HW.out⟩
  · have hne : ((t.ks.length : Int) != (u.ks.length : Int)) = true := by simp; omega
    have X : Hid (eqFL t.ks u.ks = false) := Lib.hid (eqFL_len hl)
    clear hl
    go_enter Try.func54, Try.ntmps54
    go_wp2
    go_ret
    exact ⟨by rw [X.out]; rfl, Below.refl _ _⟩
set_option maxRecDepth 100000 in
set_option maxHeartbeats 8000000 in
theorem pr_fSame : ∀ (n : Nat) (t : Fx), t.sz ≤ n → n ≤ 100000000 → ∀ (u : Fx), u.sz ≤ 100000000 → ∀ (E : Option Addr) (dd : Nat) (A : Option Addr) (c : Nat) (E2 : Option Addr) (d2 : Nat) (B : Option Addr) (d : Nat) (w : World), Fm w.heap.size w t E A → Fm w.heap.size w u E2 B →
    Calls Try.prog 26 #[fV t E dd A c, fV u E2 d2 B d] w (ValP w (eqF t u)) := by
  intro n
  induction n with
  | zero => intro t h; have := fsz_pos t; omega
  | succ n ih =>
    intro t ht hn u hu E dd A c E2 d2 B d w hA hB
    have h1 := fkl_sz t
    have h2 := fe_sz t
    have h3 := fkl_sz u
    have h4 := fe_sz u
    have HS : Hid (EqF 26 t.ks u.ks) := Lib.hid (fun i hi E dd A c E2 d2 B d w ha hb => by
      have := fkd_sz hi
      by_cases hj : i < u.ks.length
      · have := fkd_sz hj
        exact ih (fkd t.ks i) (by omega) (by omega) (fkd u.ks i) (by omega) E dd A c E2 d2 B d w ha hb
      · have e : fkd u.ks i = fx0 := by unfold fkd; rw [List.getD, List.getElem?_eq_none (by omega)]; rfl
        exact ih (fkd t.ks i) (by omega) (by omega) (fkd u.ks i) (by rw [e]; decide) E dd A c E2 d2 B d w ha hb)
    have HAL : Hid (∀ o1 o2, Below w.heap.size w ((w.alloc o1).alloc o2)) := Lib.hid (fun o1 o2 => bt (bal _ _) (bal _ _))
    obtain ⟨W, hW⟩ : ∃ W, (w.alloc (.cells (fC t E dd A c) 27)).alloc (.cells (fC u E2 d2 B d) 27) = W := ⟨_, rfl⟩
    have hz1 : (w.alloc (.cells (fC t E dd A c) 27)).heap.size = w.heap.size + 1 := by simp
    have hbW : Below w.heap.size w W := by rw [← hW]; exact HAL.out _ _
    have hat1 : FAt W w.heap.size 0 t E dd A c := by rw [← hW]; exact (fal t E A dd c w).below (bal _ _) (by simp)
    have hat2 : FAt W (w.heap.size + 1) 0 u E2 d2 B d := by rw [← hW, ← hz1]; exact fal u E2 B d2 d _
    have hzW : w.heap.size + 1 < W.heap.size := by rw [← hW]; simp
    have HX : Hid (∀ wx, Below W.heap.size W wx → FAt wx w.heap.size 0 t E dd A c ∧ FAt wx (w.heap.size + 1) 0 u E2 d2 B d ∧ Below w.heap.size w wx) := Lib.hid (fun wx hb => ⟨hat1.below hb (by omega), hat2.below hb (by omega), hbW.trans (hb.mono hbW.size)⟩)
    have HT : Hid (Calls Try.prog 53 #[exV t.e E dd, exV u.e E2 d2] W (ValP W (eqE t.e u.e))) := Lib.hid (pr_Same t.e.sz t.e (Nat.le_refl _) (by omega) u.e (by omega) E E2 dd d2 W (hA.1.step hbW) (hB.1.step hbW))
    have HE : Hid (∀ wx, Below W.heap.size W wx → Calls Try.prog 54 #[.slice A t.ks.length c, .slice B u.ks.length d, .func (.func 26) #[] #[]] wx (ValP wx (eqFL t.ks u.ks))) := Lib.hid (fun wx hb => pr_fEqualFunc t u A B c d wx ((hA.2.step hbW).step hb) ((hB.2.step hbW).step hb) (by omega) HS.out)
    obtain ⟨R, hR⟩ : ∃ R, eqF t u = R := ⟨_, rfl⟩
    rw [hR]
    rw [eqF_eq] at hR
    obtain ⟨p0, p1, p2, p3, p4, p5⟩ := hat1
    obtain ⟨r0, r1, r2, r3, r4, r5⟩ := hat2
    have HW := Lib.hid hW
    clear h1 h2 h3 h4 HS ih hA hB ht hu hn hz1 hbW hzW hW
    obtain ⟨qe, hqe⟩ : ∃ q, eqE t.e u.e = q := ⟨_, rfl⟩
    obtain ⟨qk, hqk⟩ : ∃ q, eqFL t.ks u.ks = q := ⟨_, rfl⟩
    obtain ⟨qo, hqo⟩ : ∃ q, (t.op == u.op) = q := ⟨_, rfl⟩
    rw [hqe] at hR HT
    rw [hqk] at hR HE
    rw [hqo] at hR
    clear hqe hqk
    cases qo
    · have X : Hid (R = false) := Lib.hid (by rw [← hR]; rfl)
      clear hR
      go_enter Try.func26, Try.ntmps26
      go_upto_region 1 with (fail)
      rw [HW.out]
      go_wp2
      go_ret
      exact ⟨by rw [X.out]; rfl, (HX.out _ (Below.refl _ _)).2.2⟩
    · cases qe
      · have X : Hid (R = false) := Lib.hid (by rw [← hR]; rfl)
        clear hR
        go_enter Try.func26, Try.ntmps26
        go_upto_region 1 with (fail)
        rw [HW.out]
        go_wp2_with (go_at_call 53; (with_reducible refine HT.out.mono ?_); rintro e w2 ⟨rfl, hb2⟩; have HB2 := Lib.hid hb2; clear hb2)
        go_ret
        exact ⟨by rw [X.out]; rfl, (HX.out _ HB2.out).2.2⟩
      · have X : Hid (R = qk) := Lib.hid (by rw [← hR]; rfl)
        clear hR
        go_enter Try.func26, Try.ntmps26
        go_upto_region 1 with (fail)
        rw [HW.out]
        go_wp2_with (first
          | (go_at_call 54; have _ := HB2; (with_reducible refine (HE.out _ HB2.out).mono ?_); rintro e w3 ⟨rfl, hb3⟩; have HB3 := Lib.hid (bt HB2.out hb3); clear hb3)
          | (go_at_call 53; (with_reducible refine HT.out.mono ?_); rintro e w2 ⟨rfl, hb2⟩; have HB2 := Lib.hid hb2; obtain ⟨⟨a0, a1, a2, a3, a4, a5⟩, ⟨s0, s1, s2, s3, s4, s5⟩, _⟩ := HX.out _ hb2; clear hb2))
        go_ret
        exact ⟨by rw [X.out]; rfl, (HX.out _ HB3.out).2.2⟩
end Go.Proofs.Ytnjkphopklbogaa
namespace Go.Proofs.Ytnjkphopklbogaa
open Go.RowKit

def anL (p : Fx) : List Fx → Bool
  | [] => false
  | u :: r => eqF p u || anL p r
theorem anL_step {p : Fx} {l : List Fx} {k : Nat} (h : k < l.length) : anL p (l.drop k) = (eqF p (fkd l k) || anL p (l.drop (k + 1))) := by rw [fkd_drop h]; rfl
/-- An element of an own row. -/
theorem RowG.at {Z : Nat → Prop} {w : World} {K n : Nat} {A : Option Addr} {c : Nat} {ts : List Fx} (h : RowG Z w K (.slice A n c) n ts) {i : Nat} (hi : i < n) : ∃ b ea ec ka kc, A = some ⟨b, 0, none⟩ ∧ K ≤ b ∧ b < w.heap.size ∧ FAt w b (0 + i * 6) (fkd ts i) ea ec ka kc ∧ FmS (fun x => (Z x ∧ x < w.heap.size) ∧ b ≠ x) w (fkd ts i) ea ka := by
  obtain ⟨hl, ea, ka, ec, kc, ho, hk⟩ := h
  rcases ho.2 with ⟨hv, h0⟩ | ⟨g, cap, cur, hv, hg, hh, _, _, _, htk⟩
  · omega
  · have hA : A = some ⟨g, 0, none⟩ := by simpa using (Value.slice.inj hv).1
    subst hA
    have hB : Blk w g 27 cur := hh
    have hi2 : i < ts.length := by omega
    have hat : ∀ j u, (csF ts ea ka ec kc)[j]? = some u → w.cell? ⟨g, 0 + j, none⟩ = some u := fun j u hj => by
      rw [Nat.zero_add, hB.cell j]
      rw [← htk, List.getElem?_take] at hj
      split at hj
      · rwa [Array.getElem?_toList] at hj
      · cases hj
    have hc : ∀ j, j < 6 → ∀ u, (fC (fkd ts i) (ea i) (ec i) (ka i) (kc i)).toList[j]? = some u → w.cell? ⟨g, 0 + i * 6 + j, none⟩ = some u := fun j hj u hu => by
      rw [Nat.add_assoc]
      exact hat _ _ ((csF_at hi2 hj).trans hu)
    exact ⟨g, ea i, ec i, ka i, kc i, rfl, hg, hB.lt, ⟨hc 0 (by omega) _ rfl, hc 1 (by omega) _ rfl, hc 2 (by omega) _ rfl, hc 3 (by omega) _ rfl, hc 4 (by omega) _ rfl, hc 5 (by omega) _ rfl⟩, (hk i hi).mono (fun x hx => ⟨hx.1, fun e => hx.2 (by rw [← e]; rfl)⟩)⟩
set_option maxHeartbeats 4000000 in
theorem pr_parts2 (p u : Fx) (g : Nat) (E A E2 A2 : Option Addr) (d c d2 c2 : Nat) (w : World) (hg : Blk w g 27 (fC p E d A c)) (hp : Fm w.heap.size w p E A) (hu : Fm w.heap.size w u E2 A2) (sp : p.sz ≤ 100000000) (su : u.sz ≤ 100000000) :
    Calls Try.prog 50 #[fV u E2 d2 A2 c2, .pointer (some ⟨g, 0, none⟩)] w (ValP w (eqF p u)) := by
  have HAL : Hid (∀ o, Below w.heap.size w (w.alloc o)) := Lib.hid (fun o => bal _ _)
  have hk := hg.below (bal w (.cells (fC u E2 d2 A2 c2) 27)) hg.lt
  have HC : Hid (Calls Try.prog 26 #[fV p E d A c, fV u E2 d2 A2 c2] (w.alloc (.cells (fC u E2 d2 A2 c2) 27)) (ValP (w.alloc (.cells (fC u E2 d2 A2 c2) 27)) (eqF p u))) := Lib.hid (pr_fSame p.sz p (Nat.le_refl _) sp u su E d A c E2 d2 A2 c2 _ (hp.step (bal _ _)) (hu.step (bal _ _)))
  obtain ⟨p0, p1, p2, p3, p4, p5⟩ := fal u E2 A2 d2 c2 w
  have q0 := hk.cell 0
  have q1 := hk.cell 1
  have q2 := hk.cell 2
  have q3 := hk.cell 3
  have q4 := hk.cell 4
  have q5 := hk.cell 5
  generalize eqF p u = R at *
  clear hk hg hp hu
  go_enter Try.func50, Try.ntmps50
  go_wp2_with (go_at_call 26; (with_reducible refine HC.out.mono ?_); rintro e w1 ⟨rfl, hb1⟩; have HB1 := Lib.hid hb1; clear hb1)
  go_ret
  exact ⟨rfl, bt (HAL.out _) HB1.out⟩
set_option maxRecDepth 100000 in
set_option maxHeartbeats 4000000 in
theorem pr_IndexF (p : Fx) (g : Nat) (E A1 : Option Addr) (d c1 : Nat) (t : Fx) (A : Option Addr) (c : Nat) (w : World) (hg : Blk w g 27 (fC p E d A1 c1)) (hp : Fm w.heap.size w p E A1) (sp : p.sz ≤ 100000000) (hA : RepF w.heap.size w A t) (ht : t.ks.length ≤ 1000000000) (st : ∀ u, u ∈ t.ks → u.sz ≤ 100000000) :
    Calls Try.prog 76 #[.slice A t.ks.length c, .func (.func 50) #[] #[.pointer (some ⟨g, 0, none⟩)]] w (IdxP w (anL p t.ks)) := by
  have HG := Lib.hid hg
  have HP := Lib.hid hp
  have HA := Lib.hid hA
  have HS := Lib.hid st
  clear hA st hg hp
  obtain ⟨R, hR⟩ : ∃ R, anL p t.ks = R := ⟨_, rfl⟩
  have HR0 : Hid (anL p (t.ks.drop 0) = R) := Lib.hid hR
  rw [hR]
  clear hR
  go_enter Try.func76, Try.ntmps76
  go_wp2
  go_loopw [8] (fun i wr => ∃ k : Nat, k ≤ t.ks.length ∧ i = .int .i64 (k : Int) ∧ Hid (anL p (t.ks.drop k) = R) ∧ Hid (Below w.heap.size w wr)) (fun i _ => t.ks.length - (intOf i).toNat)
  case atStart => exact ⟨0, Nat.zero_le _, rfl, HR0, Lib.hid (Below.refl _ _)⟩
  case round =>
    obtain ⟨k, hk, rfl, HV, HW⟩ := hrel
    have hk0 : (0 : Int) ≤ (k : Int) := by omega
    by_cases hlt : k < t.ks.length
    · have h1 : (k : Int) < (t.ks.length : Int) := by omega
      obtain ⟨b, f0, rfl, hb, hc⟩ := HA.out.out (by omega)
      obtain ⟨ea, ec, ka, kc, hat, hRk, hRk2⟩ := hc k hlt
      obtain ⟨d0, d1, d2, d3, d4, d5⟩ := hat.turn (fun o => World.cell?_of_block (a := ⟨b, o, none⟩) (HW.out.block b hb))
      have hzr := HW.out.size
      have g1 : b < wr.heap.size := by omega
      have hst := anL_step (p := p) hlt
      rw [HV.out] at hst
      have HC := Lib.hid (pr_parts2 p (fkd t.ks k) g E A1 ea ka d c1 ec kc wr (HG.out.below HW.out HG.out.lt) (HP.out.step HW.out) (Fm.step ⟨hRk, hRk2⟩ HW.out) sp (HS.out _ (fkd_mem hlt)))
      obtain ⟨q, hq⟩ : ∃ q, eqF p (fkd t.ks k) = q := ⟨_, rfl⟩
      rw [hq] at HC hst
      have HST := Lib.hid hst
      clear hst hq hc hRk hRk2 hat hb hzr
      generalize fkd t.ks k = x1 at *
      cases q
      · have X : Hid (anL p (t.ks.drop (k + 1)) = R) := Lib.hid (by have := HST.out; simpa using this.symm)
        go_wp2_with (go_at_call 50; (with_reducible refine HC.out.mono ?_); rintro e w2 ⟨rfl, hb2⟩; have HB2 := Lib.hid (HW.out.trans (hb2.mono HW.out.size)); clear hb2)
        exact ⟨⟨k + 1, by omega, by go_num, X, HB2⟩, by simp [intOf]; omega⟩
      · have X : Hid (R = true) := Lib.hid (by have := HST.out; simpa using this)
        go_wp2_with (go_at_call 50; (with_reducible refine HC.out.mono ?_); rintro e w2 ⟨rfl, hb2⟩; have HB2 := Lib.hid (HW.out.trans (hb2.mono HW.out.size)); clear hb2)
        go_ret
        exact ⟨(k : Int), rfl, fun _ => by omega, (fun h => by rw [X.out] at h; cases h), HB2.out⟩
    · have X : Hid (R = false) := Lib.hid (by
        have := HV.out
        rw [List.drop_of_length_le (by omega)] at this
        rw [← this]; rfl)
      go_wp2
      go_ret
      exact ⟨-1, rfl, (fun h => by rw [X.out] at h; cases h), fun _ => rfl, HW.out⟩
set_option maxHeartbeats 4000000 in
theorem pr_ContF (p : Fx) (g : Nat) (E A1 : Option Addr) (d c1 : Nat) (t : Fx) (A : Option Addr) (c : Nat) (w : World) (hg : Blk w g 27 (fC p E d A1 c1)) (hp : Fm w.heap.size w p E A1) (sp : p.sz ≤ 100000000) (hA : RepF w.heap.size w A t) (ht : t.ks.length ≤ 1000000000) (st : ∀ u, u ∈ t.ks → u.sz ≤ 100000000) :
    Calls Try.prog 51 #[.slice A t.ks.length c, .func (.func 50) #[] #[.pointer (some ⟨g, 0, none⟩)]] w (ValP w (anL p t.ks)) := by
  have H := pr_IndexF p g E A1 d c1 t A c w hg hp sp hA ht st
  obtain ⟨R, hR⟩ : ∃ R, anL p t.ks = R := ⟨_, rfl⟩
  rw [hR] at H ⊢
  clear hA st hR hg hp
  cases R
  · have HI : Hid (Calls Try.prog 76 #[.slice A t.ks.length c, .func (.func 50) #[] #[.pointer (some ⟨g, 0, none⟩)]] w fun e w' => e = .returned (.int .i64 (-1)) ∧ Below w.heap.size w w') := Lib.hid (H.mono (by rintro e w' ⟨v, rfl, _, h2, h3⟩; rw [h2 rfl]; exact ⟨rfl, h3⟩))
    clear H
    go_enter Try.func51, Try.ntmps51
    go_wp2_with (go_at_call 76; (with_reducible refine HI.out.mono ?_); rintro e w2 ⟨rfl, hb2⟩; have HB2 := Lib.hid hb2; clear hb2)
    go_ret
    exact ⟨rfl, HB2.out⟩
  · have HI : Hid (Calls Try.prog 76 #[.slice A t.ks.length c, .func (.func 50) #[] #[.pointer (some ⟨g, 0, none⟩)]] w fun e w' => ∃ v : Int, e = .returned (.int .i64 v) ∧ 0 ≤ v ∧ Below w.heap.size w w') := Lib.hid (H.mono (by rintro e w' ⟨v, rfl, h1, _, h3⟩; exact ⟨v, rfl, h1 rfl, h3⟩))
    clear H
    go_enter Try.func51, Try.ntmps51
    go_wp2_with (go_at_call 76; (with_reducible refine HI.out.mono ?_); rintro e w2 ⟨v, rfl, hv, hb2⟩; have HB2 := Lib.hid hb2; clear hb2)
    go_ret
    exact ⟨by first | rfl | simp [hv], HB2.out⟩
end Go.Proofs.Ytnjkphopklbogaa
namespace Go.Proofs.Ytnjkphopklbogaa
open Go.RowKit

theorem rep_pair {P : Nat → Prop} {w : World} {g : Nat} {u v : Fx} {E A E2 A2 : Option Addr} {d c d2 c2 : Nat} (o : Int) (e : Ex) (hg : P g) (h0 : FAt w g 0 u E d A c) (h1 : FAt w g 6 v E2 d2 A2 c2) (hu : FmS P w u E A) (hv : FmS P w v E2 A2) : RepFS P w (some ⟨g, 0, none⟩) (.mk o e [u, v]) := by
  refine .mk _ _ (fun i => if i = 0 then A else A2) (fun i => if i = 0 then E else E2) (fun i => if i = 0 then c else c2) (fun i => if i = 0 then d else d2) (fun _ => ⟨g, 0, rfl, hg, fun i hi => ?_⟩) (fun i hi => ?_) (fun i hi => ?_)
  all_goals
    have hi2 : i < 2 := hi
    rcases (show i = 0 ∨ i = 1 by omega) with rfl | rfl
  · exact h0
  · exact h1
  · exact hu.1
  · exact hv.1
  · exact hu.2
  · exact hv.2
theorem rep_single {P : Nat → Prop} {w : World} {g : Nat} {u : Fx} {E A : Option Addr} {d c : Nat} (o : Int) (e : Ex) (hg : P g) (h0 : FAt w g 0 u E d A c) (hu : FmS P w u E A) : RepFS P w (some ⟨g, 0, none⟩) (.mk o e [u]) := by
  refine .mk _ _ (fun _ => A) (fun _ => E) (fun _ => c) (fun _ => d) (fun _ => ⟨g, 0, rfl, hg, fun i hi => ?_⟩) (fun i hi => ?_) (fun i hi => ?_)
  all_goals
    have hi2 : i < 1 := hi
    obtain rfl : i = 0 := by omega
  · exact h0
  · exact hu.1
  · exact hu.2
/-- What push answers: what was below B, or is made. -/
def PuP (B : Nat) (t : Fx) (w : World) (e : Ending) (w' : World) : Prop := ∃ E d A c, e = .returned (fV t E d A c) ∧ FmS (Ot B w.heap.size w') w' t E A ∧ Below w.heap.size w w'
abbrev K6 (wx : World) (b f : Nat) (u : Fx) (E : Option Addr) (d : Nat) (A : Option Addr) (c : Nat) : Prop := wx.cell? ⟨b, f, none⟩ = some (.int .i64 u.op) ∧ wx.cell? ⟨b, f + 1, none⟩ = some (.int .i64 u.e.op) ∧ wx.cell? ⟨b, f + 2, none⟩ = some (.int .i64 u.e.vr) ∧ wx.cell? ⟨b, f + 3, none⟩ = some (.string u.e.nm) ∧ wx.cell? ⟨b, f + 4, none⟩ = some (.slice E u.e.ks.length d) ∧ wx.cell? ⟨b, f + 5, none⟩ = some (.slice A u.ks.length c)
theorem FAt.k6 {wx : World} {b f : Nat} {u : Fx} {E : Option Addr} {d : Nat} {A : Option Addr} {c : Nat} (h : FAt wx b f u E d A c) : K6 wx b f u E d A c := ⟨h.c0, h.c1, h.c2, h.c3, h.c4, h.c5⟩
/-- The world once the boxes are laid: the argument's at G, the answer's at G + 1. -/
structure PuW (B : Nat) (t : Fx) (E : Option Addr) (dd : Nat) (A : Option Addr) (c : Nat) (w W0 : World) : Prop where
  al : Below w.heap.size w W0
  sz : W0.heap.size = w.heap.size + 1 + 1
  b0 : Blk W0 w.heap.size 27 (fC t E dd A c)
  b1 : Blk W0 (w.heap.size + 1) 27 fZ
  hB : B ≤ w.heap.size
  rp : Fm B W0 t E A
theorem PuW.mk' {B : Nat} {t : Fx} {E : Option Addr} {dd : Nat} {A : Option Addr} {c : Nat} {w : World} (hB : B ≤ w.heap.size) (hR : Fm B w t E A) : PuW B t E dd A c w ((w.alloc (.cells (fC t E dd A c) 27)).alloc (.cells fZ 27)) := by
  have hz1 : (w.alloc (.cells (fC t E dd A c) 27)).heap.size = w.heap.size + 1 := by simp
  have hal : Below w.heap.size w ((w.alloc (.cells (fC t E dd A c) 27)).alloc (.cells fZ 27)) := bt (bal _ _) (bal _ _)
  refine ⟨hal, by simp, (Blk.new w 27 _).below (bal _ _) (by simp), ?_, hB, hR.under (hal.mono hB)⟩
  have h := Blk.new (w.alloc (.cells (fC t E dd A c) 27)) 27 fZ
  rw [hz1] at h
  exact h
/-- The first two Kids as they lie. -/
theorem PuW.two {B : Nat} {t : Fx} {E : Option Addr} {dd : Nat} {A : Option Addr} {c : Nat} {w W0 : World} (h : PuW B t E dd A c w W0) (hn : t.ks.length = 2) : ∃ b f ea0 ec0 ka0 kc0 ea1 ec1 ka1 kc1, A = some ⟨b, f, none⟩ ∧ (∀ wx, Frm (fun x => x = w.heap.size + 1) W0 wx → (wx.cell? ⟨w.heap.size, 0, none⟩ = some (.int .i64 t.op) ∧ wx.cell? ⟨w.heap.size, 5, none⟩ = some (.slice (some ⟨b, f, none⟩) t.ks.length c)) ∧ K6 wx b f (fkd t.ks 0) ea0 ec0 ka0 kc0 ∧ K6 wx b (f + 6) (fkd t.ks 1) ea1 ec1 ka1 kc1) ∧
    Fm B W0 (fkd t.ks 0) ea0 ka0 ∧ Fm B W0 (fkd t.ks 1) ea1 ka1 := by
  have hB := h.hB
  have hz := h.sz
  obtain ⟨b, f, e, hb, hc⟩ := h.rp.2.out (by omega)
  obtain ⟨ea0, ec0, ka0, kc0, h0, r0, s0⟩ := hc 0 (by omega)
  obtain ⟨ea1, ec1, ka1, kc1, h1, r1, s1⟩ := hc 1 (by omega)
  rw [Nat.zero_mul, Nat.add_zero] at h0
  rw [Nat.one_mul] at h1
  refine ⟨b, f, ea0, ec0, ka0, kc0, ea1, ec1, ka1, kc1, e, fun wx hx => ?_, ⟨r0, s0⟩, ⟨r1, s1⟩⟩
  have hbk : wx.heap[b]? = W0.heap[b]? := hx.block b (by omega) (by omega)
  have q0 := h.b0.frm hx (by omega)
  rw [e] at q0
  exact ⟨⟨q0.cell 0, q0.cell 5⟩, (h0.turn (fun o => World.cell?_of_block (a := ⟨b, o, none⟩) hbk)).k6, (h1.turn (fun o => World.cell?_of_block (a := ⟨b, o, none⟩) hbk)).k6⟩
abbrev Z6 (wx : World) (g : Nat) (v0 v1 v2 v3 v4 v5 : Value) : World := (((((wx.setCell ⟨g, 0, none⟩ v0).setCell ⟨g, 1, none⟩ v1).setCell ⟨g, 2, none⟩ v2).setCell ⟨g, 3, none⟩ v3).setCell ⟨g, 4, none⟩ v4).setCell ⟨g, 5, none⟩ v5
theorem frm_z6 {S : Nat → Prop} {a w : World} (h : Frm S a w) {g : Nat} (hg : S g) (v0 v1 v2 v3 v4 v5 : Value) : Frm S a (Z6 w g v0 v1 v2 v3 v4 v5) :=
  (((((h.set hg 0 v0).set hg 1 v1).set hg 2 v2).set hg 3 v3).set hg 4 v4).set hg 5 v5
/-- The answer is a node over two pushed ones, in a row of their own. -/
theorem push_two {B G : Nat} {w W0 w1 w2 w3 : World} {u v : Fx} {E1 A1 E2 A2 : Option Addr} {d1 c1 d2 c2 : Nat} (o : Int) (v0 v1 v2 v3 v4 v5 : Value) (hG : G = w.heap.size + 1) (hB : B ≤ w.heap.size) (hal : Below w.heap.size w W0) (hz : W0.heap.size = w.heap.size + 1 + 1)
    (hb1 : Below W0.heap.size W0 w1) (hu : FmS (Ot B W0.heap.size w1) w1 u E1 A1) (hb2 : Below w1.heap.size w1 w2) (hv : FmS (Ot B w1.heap.size w2) w2 v E2 A2)
    (hb3 : Below w2.heap.size (w2.alloc (.cells #[.int .i64 u.op, .int .i64 u.e.op, .int .i64 u.e.vr, .string u.e.nm, .slice E1 u.e.ks.length d1, .slice A1 u.ks.length c1, .int .i64 v.op, .int .i64 v.e.op, .int .i64 v.e.vr, .string v.e.nm, .slice E2 v.e.ks.length d2, .slice A2 v.ks.length c2] 27)) w3)
    (hlt : w2.heap.size < w3.heap.size) (hrow : Blk w3 w2.heap.size 27 #[.int .i64 u.op, .int .i64 u.e.op, .int .i64 u.e.vr, .string u.e.nm, .slice E1 u.e.ks.length d1, .slice A1 u.ks.length c1, .int .i64 v.op, .int .i64 v.e.op, .int .i64 v.e.vr, .string v.e.nm, .slice E2 v.e.ks.length d2, .slice A2 v.ks.length c2]) :
    FmS (Ot B w.heap.size (Z6 w3 G v0 v1 v2 v3 v4 v5)) (Z6 w3 G v0 v1 v2 v3 v4 v5) (.mk o ex0 [u, v]) none (some ⟨w2.heap.size, 0, none⟩) ∧ Below w.heap.size w (Z6 w3 G v0 v1 v2 v3 v4 v5) := by
  have s1 := hb1.size
  have s2 := hb2.size
  have hb23 : Below w2.heap.size w2 w3 := (bal w2 _).trans hb3
  have s3 := hb23.size
  have hblk : ∀ x, x ≠ G → (Z6 w3 G v0 v1 v2 v3 v4 v5).heap[x]? = w3.heap[x]? := fun x hx => set6_blk _ _ _ _ _ _ _ hx
  have hsz : (Z6 w3 G v0 v1 v2 v3 v4 v5).heap.size = w3.heap.size := set6_size _ _ _ _ _ _ _ _ _ _ _ _ _ _
  have hfin : Below w.heap.size w (Z6 w3 G v0 v1 v2 v3 v4 v5) :=
    (frm_z6 (S := fun x => x = G) (g := G) (Frm.of_below (hal.trans ((hb1.mono (by omega)).trans ((hb2.mono (by omega)).trans (hb23.mono (by omega)))))) rfl _ _ _ _ _ _).below2 (fun k hk e => by omega) (Nat.le_refl _)
  generalize Z6 w3 G v0 v1 v2 v3 v4 v5 = wf at *
  have hR : Blk wf w2.heap.size 27 _ := (hblk _ (by omega)).trans hrow
  have hu2 : FmS (Ot B w.heap.size wf) wf u E1 A1 := (hu.kept (fun y hy => (hblk y (by rcases hy with h | h <;> omega)).trans ((hb23.block y (by rcases hy with h | h <;> omega)).trans (hb2.block y (by rcases hy with h | h <;> omega))))).mono (fun y hy => hy.imp id (fun h => ⟨by omega, by omega⟩))
  have hv2 : FmS (Ot B w.heap.size wf) wf v E2 A2 := (hv.kept (fun y hy => (hblk y (by rcases hy with h | h <;> omega)).trans (hb23.block y (by rcases hy with h | h <;> omega)))).mono (fun y hy => hy.imp id (fun h => ⟨by omega, by omega⟩))
  exact ⟨⟨RepS.leaf rfl, rep_pair o ex0 (.inr ⟨by omega, by omega⟩) ⟨hR.cell 0, hR.cell 1, hR.cell 2, hR.cell 3, hR.cell 4, hR.cell 5⟩ ⟨hR.cell 6, hR.cell 7, hR.cell 8, hR.cell 9, hR.cell 10, hR.cell 11⟩ hu2 hv2⟩, hfin⟩
end Go.Proofs.Ytnjkphopklbogaa
namespace Go.Proofs.Ytnjkphopklbogaa
open Go.RowKit

/-- push's contract for the Kids. -/
def PuI (f : Nat) (B : Nat) (t : Fx) : Prop := ∀ i, i < t.ks.length → ∀ ea ec ka kc b w, B ≤ w.heap.size → Fm B w (fkd t.ks i) ea ka → Calls Try.prog f #[fV (fkd t.ks i) ea ec ka kc, .bool b] w (PuP B (psF (fkd t.ks i) b) w)
set_option maxRecDepth 100000 in
set_option maxHeartbeats 16000000 in
theorem pr_push5 (B : Nat) (t : Fx) (E A : Option Addr) (dd c : Nat) (b : Bool) (w : World) (ho : t.op = 5) (hn : t.ks.length = 2) (hB : B ≤ w.heap.size) (hR : Fm B w t E A) (hI : PuI 45 B t) :
    Calls Try.prog 45 #[fV t E dd A c, .bool b] w (PuP B (psF t b) w) := by
  obtain ⟨W0, hW0⟩ : ∃ W, (w.alloc (.cells (fC t E dd A c) 27)).alloc (.cells fZ 27) = W := ⟨_, rfl⟩
  have hP := PuW.mk' (dd := dd) (c := c) hB hR
  rw [hW0] at hP
  have hW0n : (w.alloc (.cells #[.int .i64 t.op, .int .i64 t.e.op, .int .i64 t.e.vr, .string t.e.nm, .slice E t.e.ks.length dd, .slice A 2 c] 27)).alloc (.cells fZ 27) = W0 := by rw [← hn]; exact hW0
  show Calls Try.prog 45 #[.agg #[.int .i64 t.op, .int .i64 t.e.op, .int .i64 t.e.vr, .string t.e.nm, .slice E t.e.ks.length dd, .slice A t.ks.length c], .bool b] w _
  rw [hn]
  obtain ⟨bb, f, ea0, ec0, ka0, kc0, ea1, ec1, ka1, kc1, rfl, hX, hr0, hr1⟩ := hP.two hn
  have X : Hid (psF t b = .mk (dualF 4 b) ex0 [psF (fkd t.ks 0) (!b), psF (fkd t.ks 1) b]) := Lib.hid (by
    rw [psF_eq, if_neg (by omega), if_neg (by omega), if_pos ho, apF_at _ _ _ (by omega), apF_at _ _ _ (by omega)])
  have HI := Lib.hid hI
  have HC0 : Hid (∀ wx, Below W0.heap.size W0 wx → Calls Try.prog 45 #[fV (fkd t.ks 0) ea0 ec0 ka0 kc0, .bool (!b)] wx (PuP B (psF (fkd t.ks 0) (!b)) wx)) := Lib.hid (fun wx hx => hI 0 (by omega) _ _ _ _ _ wx (by have := hP.al.size; have := hx.size; omega) (hr0.under (hx.mono (by have := hP.al.size; omega))))
  have HC1 : Hid (∀ wx, Below W0.heap.size W0 wx → Calls Try.prog 45 #[fV (fkd t.ks 1) ea1 ec1 ka1 kc1, .bool b] wx (PuP B (psF (fkd t.ks 1) b) wx)) := Lib.hid (fun wx hx => hI 1 (by omega) _ _ _ _ _ wx (by have := hP.al.size; have := hx.size; omega) (hr1.under (hx.mono (by have := hP.al.size; omega))))
  rw [hn] at hX
  have HX := Lib.hid hX
  have HPW := Lib.hid hP
  have HB := Lib.hid hB
  have p0 : W0.cell? ⟨w.heap.size, 0, none⟩ = some (.int .i64 t.op) := hP.b0.cell 0
  have pl := hP.b0.lt
  have hN := Lib.hid hn
  have HO := Lib.hid ho
  have HWW := Lib.hid hW0n
  generalize fkd t.ks 0 = x0 at *
  generalize fkd t.ks 1 = x1 at *
  obtain ⟨y0, hy0⟩ : ∃ y, psF x0 (!b) = y := ⟨_, rfl⟩
  obtain ⟨y1, hy1⟩ : ∃ y, psF x1 b = y := ⟨_, rfl⟩
  rw [hy0] at X HC0
  rw [hy1] at X HC1
  have HDR : Hid (Below W0.heap.size W0 W0.drew) := Lib.hid ((Below.refl _ _).drew)
  have HTG : Hid (∀ (w1 w2 : World) (E1 A1 E2 A2 : Option Addr) (d1 c1 d2 c2 : Nat), Below W0.heap.size W0 w1 → FmS (Ot B W0.heap.size w1) w1 y0 E1 A1 → Below w1.heap.size w1 w2 → FmS (Ot B w1.heap.size w2) w2 y1 E2 A2 → ∀ w3, Below (w2.alloc (.cells #[.int .i64 y0.op, .int .i64 y0.e.op, .int .i64 y0.e.vr, .string y0.e.nm, .slice E1 y0.e.ks.length d1, .slice A1 y0.ks.length c1, .int .i64 y1.op, .int .i64 y1.e.op, .int .i64 y1.e.vr, .string y1.e.nm, .slice E2 y1.e.ks.length d2, .slice A2 y1.ks.length c2] 27)).heap.size (w2.alloc (.cells #[.int .i64 y0.op, .int .i64 y0.e.op, .int .i64 y0.e.vr, .string y0.e.nm, .slice E1 y0.e.ks.length d1, .slice A1 y0.ks.length c1, .int .i64 y1.op, .int .i64 y1.e.op, .int .i64 y1.e.vr, .string y1.e.nm, .slice E2 y1.e.ks.length d2, .slice A2 y1.ks.length c2] 27)) w3 → Below W0.heap.size W0 w3 ∧ Blk w3 (w.heap.size + 1) 27 fZ ∧ ∀ o v0 v1 v2 v3 v4 v5, FmS (Ot B w.heap.size (Z6 w3 (w.heap.size + 1) v0 v1 v2 v3 v4 v5)) (Z6 w3 (w.heap.size + 1) v0 v1 v2 v3 v4 v5) (.mk o ex0 [y0, y1]) none (some ⟨w2.heap.size, 0, none⟩) ∧ Below w.heap.size w (Z6 w3 (w.heap.size + 1) v0 v1 v2 v3 v4 v5)) := Lib.hid (fun w1 w2 E1 A1 E2 A2 d1 c1 d2 c2 hh1 hhf hb2 hF2 w3 hb3 => by
    have hh2 : Below W0.heap.size W0 w2 := bt hh1 hb2
    have hbx := bt (hh2.alloc hh2.size _) hb3
    refine ⟨hbx, HPW.out.b1.below hbx HPW.out.b1.lt, fun o v0 v1 v2 v3 v4 v5 => ?_⟩
    exact push_two o v0 v1 v2 v3 v4 v5 rfl HB.out HPW.out.al HPW.out.sz hh1 hhf hb2 hF2 (hb3.mono (by simp)) (by have := hb3.size; simp at this; omega) ((Blk.new w2 27 _).below hb3 (by simp)))
  clear hy0 hy1 hP hX hr0 hr1 hI hR hB hW0 hW0n ho hn
  go_enter Try.func45, Try.ntmps45
  go_upto_region 1 with (fail)
  rw [HWW.out]
  have g1 : (t.op == 1) = false := by rw [HO.out]; rfl
  have g2 : (t.op == 2) = false := by rw [HO.out]; rfl
  have g5 : (t.op == 5) = true := by rw [HO.out]; rfl
  go_upto_region 9 with (fail)
  clear p0 g1 g2 g5
  go_region_held3 (fun wx => (wx.cell? ⟨w.heap.size, 0, none⟩ = some (.int .i64 t.op) ∧ wx.cell? ⟨w.heap.size, 5, none⟩ = some (.slice (some ⟨bb, f, none⟩) 2 c)) ∧ K6 wx bb f x0 ea0 ec0 ka0 kc0 ∧ K6 wx bb (f + 6) x1 ea1 ec1 ka1 kc1) (first
    | with_reducible exact HX.out _ (H4.out _ _ _ _ _ _)
    | with_reducible exact HX.out _ (Frm.of_below H3.out)
    | with_reducible exact HX.out _ (Frm.of_below (H2.out.alloc H2.out.size _))
    | with_reducible exact HX.out _ (Frm.of_below H2.out)
    | with_reducible exact HX.out _ (Frm.of_below H1.out)
    | exact HX.out _ (Frm.of_below HDR.out)
    | exact HX.out _ (Frm.refl _ _)) ((first
    | (go_at_call 69; (with_reducible refine (pr_node (dualF 4 b) (some ⟨w2.heap.size, 0, none⟩) 2 2 _).mono ?_); rintro e w3 ⟨rfl, hb3⟩; have hT := HT2.out w3 hb3; have H3 := Lib.hid hT.1; have hz := hT.2.1; have z0 := hz.cell 0; have z1 := hz.cell 1; have z2 := hz.cell 2; have z3 := hz.cell 3; have z4 := hz.cell 4; have z5 := hz.cell 5; have q0 := hz.frozen 0; have q1 := hz.frozen 1; have q2 := hz.frozen 2; have q3 := hz.frozen 3; have q4 := hz.frozen 4; have q5 := hz.frozen 5; have zl := hz.lt; have HZ := Lib.hid hz; have H4 := Lib.hid (fun v0 v1 v2 v3 v4 v5 => frm_z6 (S := fun x => x = w.heap.size + 1) (g := w.heap.size + 1) (Frm.of_below hT.1) rfl v0 v1 v2 v3 v4 v5); have HF := Lib.hid hT.2.2; clear hT hz hb3)
    | (go_at_call 45; have _ := H1; (with_reducible refine (HC1.out _ H1.out).mono ?_); rintro e w2 ⟨E2, d2, A2, c2, rfl, hF2, hb2⟩; have H2 : Hid (Below W0.heap.size W0 w2) := Lib.hid (bt H1.out hb2); have HT2 := Lib.hid (HTG.out w1 w2 E1 A1 E2 A2 d1 c1 d2 c2 H1.out HF1.out hb2 hF2); clear hF2 hb2)
    | (go_at_call 45; (with_reducible refine (HC0.out _ HDR.out).mono ?_); rintro e w1 ⟨E1, d1, A1, c1, rfl, hF1, hb1⟩; have H1 : Hid (Below W0.heap.size W0 w1) := Lib.hid (bt HDR.out hb1); have HF1 : Hid (FmS (Ot B W0.heap.size w1) w1 y0 E1 A1) := Lib.hid hF1; clear hF1 hb1)
    | (go_at_call 70; (with_reducible refine (pr_oper 4 b _).mono ?_); rintro e wo ⟨rfl, rfl⟩)))
  all_goals go_wp2
  all_goals
    refine bodyPost_ret (res_fx rfl _ _ (w.heap.size + 1) _ _ _ _ _ _ rfl ((((((HZ.out.set_ 0 _).set_ 1 _).set_ 2 _).set_ 3 _).set_ 4 _).set_ 5 _)) rfl ?_
    rw [X.out]
    exact ⟨none, 0, some ⟨w2.heap.size, 0, none⟩, 2, rfl, (HF.out _ _ _ _ _ _ _).1, (HF.out (dualF 4 b) _ _ _ _ _ _).2⟩
end Go.Proofs.Ytnjkphopklbogaa
namespace Go.Proofs.Ytnjkphopklbogaa
open Go.RowKit

theorem z6_ret {wr : World} {g : Nat} (v0 v1 v2 v3 v4 v5 : Value) (hz : Blk wr g 27 fZ) : Blk (Z6 wr g v0 v1 v2 v3 v4 v5) g 27 #[v0, v1, v2, v3, v4, v5] := (((((hz.set_ 0 _).set_ 1 _).set_ 2 _).set_ 3 _).set_ 4 _).set_ 5 _
/-- What is stored in the answer's cell leaves the rest. -/
theorem z6_keep {B G : Nat} {w wr : World} {t : Fx} {E A : Option Addr} {K : Nat} (v0 v1 v2 v3 v4 v5 : Value) (hG : G = w.heap.size + 1) (hB : B ≤ w.heap.size) (hb : Below w.heap.size w wr) (hK : w.heap.size + 1 + 1 ≤ K) (_hs : w.heap.size + 1 + 1 ≤ wr.heap.size) (h : FmS (Ot B K wr) wr t E A) : FmS (Ot B w.heap.size (Z6 wr G v0 v1 v2 v3 v4 v5)) (Z6 wr G v0 v1 v2 v3 v4 v5) t E A ∧ Below w.heap.size w (Z6 wr G v0 v1 v2 v3 v4 v5) := by
  have hblk : ∀ x, x ≠ G → (Z6 wr G v0 v1 v2 v3 v4 v5).heap[x]? = wr.heap[x]? := fun x hx => set6_blk _ _ _ _ _ _ _ hx
  have hsz : (Z6 wr G v0 v1 v2 v3 v4 v5).heap.size = wr.heap.size := set6_size _ _ _ _ _ _ _ _ _ _ _ _ _ _
  have hfin : Below w.heap.size w (Z6 wr G v0 v1 v2 v3 v4 v5) := (frm_z6 (S := fun x => x = G) (g := G) (Frm.of_below hb) rfl _ _ _ _ _ _).below2 (fun k hk e => by omega) (Nat.le_refl _)
  generalize Z6 wr G v0 v1 v2 v3 v4 v5 = wf at *
  exact ⟨(h.kept (fun y hy => hblk y (by rcases hy with h | h <;> omega))).mono (fun y hy => hy.imp id (fun h => ⟨by omega, by omega⟩)), hfin⟩
end Go.Proofs.Ytnjkphopklbogaa
namespace Go.Proofs.Ytnjkphopklbogaa
open Go.RowKit

abbrev row2 (u v : Fx) (E1 A1 E2 A2 : Option Addr) (d1 k1 d2 k2 : Nat) : Array Value := #[.int .i64 u.op, .int .i64 u.e.op, .int .i64 u.e.vr, .string u.e.nm, .slice E1 u.e.ks.length d1, .slice A1 u.ks.length k1, .int .i64 v.op, .int .i64 v.e.op, .int .i64 v.e.vr, .string v.e.nm, .slice E2 v.e.ks.length d2, .slice A2 v.ks.length k2]
abbrev nodC (o : Int) (R n c : Nat) : Array Value := #[.int .i64 o, .int .i64 0, .int .i64 0, .string ⟨#[]⟩, .slice none 0 0, .slice (some ⟨R, 0, none⟩) n c]
/-- A node over two pushed ones, in a box of its own. -/
def PuG (B : Nat) (W0 : World) (o : Int) (u v : Fx) (s : Value) (wx : World) : Prop := ∃ Y R, s = .pointer (some ⟨Y, 0, none⟩) ∧ W0.heap.size ≤ Y ∧ Blk wx Y 27 (nodC o R 2 2) ∧ FmS (Ot B W0.heap.size wx) wx (.mk o ex0 [u, v]) none (some ⟨R, 0, none⟩) ∧ Below W0.heap.size W0 wx
theorem puG_leaf {B Y R : Nat} {W0 c1 w1 c2 w2 wE wf : World} {u v : Fx} {E1 A1 E2 A2 : Option Addr} {d1 k1 d2 k2 : Nat} {o : Int} (hB : B ≤ W0.heap.size) (hc1 : Below W0.heap.size W0 c1) (hb1 : Below c1.heap.size c1 w1) (hu : FmS (Ot B c1.heap.size w1) w1 u E1 A1)
    (hc2 : Below w1.heap.size w1 c2) (hb2 : Below c2.heap.size c2 w2) (hv : FmS (Ot B c2.heap.size w2) w2 v E2 A2) (hE : Below w2.heap.size w2 wE) (hrow : Blk wE R 27 (row2 u v E1 A1 E2 A2 d1 k1 d2 k2)) (hR : w2.heap.size ≤ R)
    (hY0 : W0.heap.size ≤ Y) (hY : Y < c1.heap.size ∨ (w1.heap.size ≤ Y ∧ Y < c2.heap.size) ∨ (w2.heap.size ≤ Y ∧ Y ≠ R)) (hfo : ∀ x, x ≠ Y → x < wE.heap.size → wf.heap[x]? = wE.heap[x]?) (hfb : Below W0.heap.size W0 wf) (hfs : wE.heap.size ≤ wf.heap.size) (hY2 : Blk wf Y 27 (nodC o R 2 2)) :
    PuG B W0 o u v (.pointer (some ⟨Y, 0, none⟩)) wf := by
  have s0 := hc1.size
  have s1 := hb1.size
  have s2 := hc2.size
  have s3 := hb2.size
  have s4 := hE.size
  have hl := hrow.lt
  have hRY : R ≠ Y := by omega
  have hRb : Blk wf R 27 (row2 u v E1 A1 E2 A2 d1 k1 d2 k2) := (hfo R hRY hl).trans hrow
  have hu2 : FmS (Ot B W0.heap.size wf) wf u E1 A1 := (hu.kept (fun y hy => (hfo y (by rcases hy with h | h <;> omega) (by rcases hy with h | h <;> omega)).trans ((hE.block y (by rcases hy with h | h <;> omega)).trans ((hb2.block y (by rcases hy with h | h <;> omega)).trans (hc2.block y (by rcases hy with h | h <;> omega)))))).mono (fun y hy => hy.imp id (fun h => ⟨by omega, by omega⟩))
  have hv2 : FmS (Ot B W0.heap.size wf) wf v E2 A2 := (hv.kept (fun y hy => (hfo y (by rcases hy with h | h <;> omega) (by rcases hy with h | h <;> omega)).trans (hE.block y (by rcases hy with h | h <;> omega)))).mono (fun y hy => hy.imp id (fun h => ⟨by omega, by omega⟩))
  exact ⟨Y, R, rfl, hY0, hY2, ⟨RepS.leaf rfl, rep_pair o ex0 (.inr ⟨by omega, by omega⟩) ⟨hRb.cell 0, hRb.cell 1, hRb.cell 2, hRb.cell 3, hRb.cell 4, hRb.cell 5⟩ ⟨hRb.cell 6, hRb.cell 7, hRb.cell 8, hRb.cell 9, hRb.cell 10, hRb.cell 11⟩ hu2 hv2⟩, hfb⟩
theorem z6_blk {w : World} {g : Nat} (v0 v1 v2 v3 v4 v5 : Value) : (∀ x, x ≠ g → x < w.heap.size → (Z6 w g v0 v1 v2 v3 v4 v5).heap[x]? = w.heap[x]?) ∧ w.heap.size ≤ (Z6 w g v0 v1 v2 v3 v4 v5).heap.size := ⟨fun _x hx _ => set6_blk _ _ _ _ _ _ _ hx, Nat.le_of_eq (set6_size _ _ _ _ _ _ _ _ _ _ _ _ _ _).symm⟩
theorem z6_below {w w0 : World} {g : Nat} (v0 v1 v2 v3 v4 v5 : Value) (h : Below w0.heap.size w0 w) (hg : w0.heap.size ≤ g) : Below w0.heap.size w0 (Z6 w g v0 v1 v2 v3 v4 v5) := (frm_z6 (S := fun x => x = g) (g := g) (Frm.of_below h) rfl _ _ _ _ _ _).below2 (fun k hk e => by omega) (Nat.le_refl _)
/-- The box was there ahead of the store. -/
theorem puG_old {B Y R : Nat} {W0 c1 w1 c2 w2 wE : World} {u v : Fx} {E1 A1 E2 A2 : Option Addr} {d1 k1 d2 k2 : Nat} {o : Int} (hB : B ≤ W0.heap.size) (hc1 : Below W0.heap.size W0 c1) (hb1 : Below c1.heap.size c1 w1) (hu : FmS (Ot B c1.heap.size w1) w1 u E1 A1)
    (hc2 : Below w1.heap.size w1 c2) (hb2 : Below c2.heap.size c2 w2) (hv : FmS (Ot B c2.heap.size w2) w2 v E2 A2) (hE : Below w2.heap.size w2 wE) (hrow : Blk wE R 27 (row2 u v E1 A1 E2 A2 d1 k1 d2 k2)) (hR : w2.heap.size ≤ R)
    (hY0 : W0.heap.size ≤ Y) (hY : Y < c1.heap.size ∨ (w1.heap.size ≤ Y ∧ Y < c2.heap.size) ∨ (w2.heap.size ≤ Y ∧ Y ≠ R)) (hz : Blk wE Y 27 fZ) :
    PuG B W0 o u v (.pointer (some ⟨Y, 0, none⟩)) (Z6 wE Y (.int .i64 o) (.int .i64 0) (.int .i64 0) (.string ⟨#[]⟩) (.slice none 0 0) (.slice (some ⟨R, 0, none⟩) 2 2)) :=
  puG_leaf hB hc1 hb1 hu hc2 hb2 hv hE hrow hR hY0 hY (z6_blk _ _ _ _ _ _).1 (z6_below _ _ _ _ _ _ (bt hc1 (bt hb1 (bt hc2 (bt hb2 hE)))) hY0) (z6_blk _ _ _ _ _ _).2 (z6_ret _ _ _ _ _ _ hz)
/-- The box is made at the end. -/
theorem puG_new {B R : Nat} {W0 c1 w1 c2 w2 wE : World} {u v : Fx} {E1 A1 E2 A2 : Option Addr} {d1 k1 d2 k2 : Nat} {o : Int} (hB : B ≤ W0.heap.size) (hc1 : Below W0.heap.size W0 c1) (hb1 : Below c1.heap.size c1 w1) (hu : FmS (Ot B c1.heap.size w1) w1 u E1 A1)
    (hc2 : Below w1.heap.size w1 c2) (hb2 : Below c2.heap.size c2 w2) (hv : FmS (Ot B c2.heap.size w2) w2 v E2 A2) (hE : Below w2.heap.size w2 wE) (hrow : Blk wE R 27 (row2 u v E1 A1 E2 A2 d1 k1 d2 k2)) (hR : w2.heap.size ≤ R) :
    PuG B W0 o u v (.pointer (some ⟨wE.heap.size, 0, none⟩)) (wE.alloc (.cells (nodC o R 2 2) 27)) :=
  have hl := hrow.lt
  puG_leaf hB hc1 hb1 hu hc2 hb2 hv hE hrow hR (by have := hc1.size; have := hb1.size; have := hc2.size; have := hb2.size; have := hE.size; omega) (.inr (.inr ⟨by have := hE.size; omega, by omega⟩)) (fun x _ hx => (bal wE (.cells (nodC o R 2 2) 27)).block x hx) (al (bt hc1 (bt hb1 (bt hc2 (bt hb2 hE)))) _) (bal _ _).size (Blk.new _ _ _)
theorem one_new (w : World) (cs : Array Value) {w' : World} (h : Below (w.alloc (.cells cs 27)).heap.size (w.alloc (.cells cs 27)) w') : Below w.heap.size w w' ∧ Blk w' w.heap.size 27 cs := ⟨bt (bal w _) h, (Blk.new w 27 cs).below h (by simp)⟩
theorem two_new (w : World) (cs ds : Array Value) {w' : World} (h : Below ((w.alloc (.cells cs 27)).alloc (.cells ds 27)).heap.size ((w.alloc (.cells cs 27)).alloc (.cells ds 27)) w') : Below w.heap.size w w' ∧ Blk w' w.heap.size 27 cs ∧ Blk w' (w.heap.size + 1) 27 ds := by
  have h2 := Blk.new (w.alloc (.cells cs 27)) 27 ds
  have e : (w.alloc (.cells cs 27)).heap.size = w.heap.size + 1 := by simp
  rw [e] at h2
  exact ⟨bt (bt (bal w _) (bal _ _)) h, ((Blk.new w 27 cs).below (bal _ _) (by simp)).below h (by simp; omega), h2.below h (by simp)⟩
theorem new_drew (w : World) (cs : Array Value) {w' : World} (h : Below (w.alloc (.cells cs 27)).drew.heap.size (w.alloc (.cells cs 27)).drew w') : Blk w' w.heap.size 27 cs := (Blk.new w 27 cs).below (((Below.refl _ _).drew (w := w.alloc (.cells cs 27))).trans h) (by simp)
theorem z6_of {W0 w3 : World} {Y : Nat} {S : Nat → Prop} (hb : Below W0.heap.size W0 w3) (hY : W0.heap.size ≤ Y) (_hz : Blk w3 Y 27 fZ) (v0 v1 v2 v3 v4 v5 : Value) : Frm S W0 (Z6 w3 Y v0 v1 v2 v3 v4 v5) := Frm.of_below (z6_below v0 v1 v2 v3 v4 v5 hb hY)
end Go.Proofs.Ytnjkphopklbogaa
namespace Go.Proofs.Ytnjkphopklbogaa
open Go.RowKit

/-- One formula more, in a plain region: its cells lie in a block just made. -/
theorem wpList_app_fx {ops : Array Oper} {rest : List Oper} {o : Oper} {a : Act} {Q : Exit → Act → World → Prop} (hgd : o.guard = none) (s x : Operand)
    (ho : o.op = .call { callee := .builtin .append, args := #[s, x], argTypes := #[25, 25] }) (w1 : World) (K n : Nat) (v : Value) (cs : List Value) (hs : a.eval s = v) (hown : w1.ownsRow K 27 6 v n cs) (t : Fx) (E A : Option Addr) (d c : Nat)
    (hx : a.eval x = .slice (some ⟨w1.heap.size, 0, none⟩) 1 1) (hB : K ≤ w1.heap.size) (hn : n ≤ 10000000)
    (h : ∀ A8 c8 w', w'.ownsRow K 27 6 (.slice A8 (n + 1) c8) (n + 1) (cs ++ (fC t E d A c).toList) → (w1.alloc (.cells (fC t E d A c) 27)).grownBy w' v.ownBlock → (∀ k, (Value.slice A8 (n + 1) c8).ownBlock = some k → v.ownBlock = some k ∨ k = (w1.alloc (.cells (fC t E d A c) 27)).heap.size) → wpList Try.prog ops Q rest (a.put o.dst (.slice A8 (n + 1) c8)) w') : wpList Try.prog ops Q (o :: rest) a (w1.alloc (.cells (fC t E d A c) 27)) := by
  obtain ⟨i0, hi0, hz0, hz1, hz2⟩ := info_parts info27
  refine wpList_append_own_at _ hgd s x 25 ho K 27 i0 _ 6 88 Try.underlying25 hi0 hz0 hz1 hz2 rfl (by decide) v n cs hs (own_keepG hown (bal _ _)) ⟨w1.heap.size, 0, none⟩ 1 1 (fC t E d A c).toList hx rfl (fun j u hj => ?_) (by simp [Value.oneCell']) (by unfold maxLen; omega) (by omega) (by simp; omega) ?_
  · have hB2 := Blk.new w1 27 (fC t E d A c)
    rw [adr_add, Nat.zero_add, hB2.cell j]
    simpa using hj
  intro v' w' hO hg _ hnew
  obtain ⟨A8, c8, rfl⟩ := owns_slice hO
  refine h A8 c8 w' hO hg (fun k hk => ?_)
  rcases hnew with q | q
  · exact .inl (q ▸ hk)
  · rw [hk] at q
    exact .inr (Option.some.inj q)
def Zr (B K x : Nat) : Prop := x < B ∨ K ≤ x
structure RpL (B : Nat) (t : Fx) (b : Bool) (W0 : World) (i : Nat) (v : Value) (wr : World) : Prop where
  al : Below W0.heap.size W0 wr
  row : RowG (Zr B W0.heap.size) wr W0.heap.size v i ((t.ks.take i).map (fun u => psF u b))
theorem take_psF {t : Fx} {b : Bool} {i : Nat} (hi : i < t.ks.length) : (t.ks.take (i + 1)).map (fun u => psF u b) = ((t.ks.take i).map (fun u => psF u b)) ++ [psF (fkd t.ks i) b] := by
  rw [List.take_add_one, List.map_append, List.getElem?_eq_getElem hi]
  simp [fkd, List.getD, List.getElem?_eq_getElem hi]
theorem rpl_step {B i : Nat} {t : Fx} {b : Bool} {W0 wr w1 w8 : World} {v v8 : Value} {ea ka : Nat → Option Addr} {ec kc : Nat → Nat} {E1 A1 : Option Addr} {d1 c1 : Nat} (h : RpL B t b W0 i v wr) (hB : B ≤ W0.heap.size) (hi : i < t.ks.length) (hl : ((t.ks.take i).map (fun u => psF u b)).length = i)
    (ho : wr.ownsRow W0.heap.size 27 6 v i (csF ((t.ks.take i).map (fun u => psF u b)) ea ka ec kc))
    (hk : ∀ j, j < i → FmS (fun x => (Zr B W0.heap.size x ∧ x < wr.heap.size) ∧ v.ownBlock ≠ some x) wr (fkd ((t.ks.take i).map (fun u => psF u b)) j) (ea j) (ka j))
    (h1 : Below wr.heap.size wr w1) (hF : FmS (Ot B wr.heap.size w1) w1 (psF (fkd t.ks i) b) E1 A1)
    (hg : (w1.alloc (.cells (fC (psF (fkd t.ks i) b) E1 d1 A1 c1) 27)).grownBy w8 v.ownBlock) (ho8 : w8.ownsRow W0.heap.size 27 6 v8 (i + 1) (csF ((t.ks.take i).map (fun u => psF u b)) ea ka ec kc ++ (fC (psF (fkd t.ks i) b) E1 d1 A1 c1).toList))
    (hat : ∀ k, v8.ownBlock = some k → v.ownBlock = some k ∨ k = (w1.alloc (.cells (fC (psF (fkd t.ks i) b) E1 d1 A1 c1) 27)).heap.size) : RpL B t b W0 (i + 1) v8 w8 := by
  obtain ⟨W, hW⟩ : ∃ W, w1.alloc (.cells (fC (psF (fkd t.ks i) b) E1 d1 A1 c1) 27) = W := ⟨_, rfl⟩
  have h1W : Below w1.heap.size w1 W := by rw [← hW]; exact bal _ _
  rw [hW] at hg hat
  have hK := h.al.size
  have h1s := h1.size
  have hWs := h1W.size
  have hbW : Below wr.heap.size wr W := bt h1 h1W
  have hown : ∀ k, v.ownBlock = some k → W0.heap.size ≤ k ∧ k < wr.heap.size := fun k hk => ho.lt k hk
  refine ⟨(h.al.trans (hbW.mono hK)).grown hg (by omega) (fun k hk => (hown k hk).1), ?_⟩
  rw [take_psF hi]
  refine RowG.push (P := Ot B wr.heap.size w1) (W := W) hl hk hbW (hF.kept (fun x hx => h1W.block x (by rcases hx with q | q <;> omega))) (fun x hx => ⟨⟨?_, ?_⟩, fun e => ?_⟩) hg ho8 hat
  · rcases hx with q | q
    · exact .inl q
    · exact .inr (by omega)
  · rcases hx with q | q <;> omega
  · have := hown x e
    rcases hx with q | q <;> omega
theorem rpl_done {B : Nat} {t : Fx} {b : Bool} {o : Int} {W0 wr : World} {A : Option Addr} {c : Nat} (h : RpL B t b W0 t.ks.length (.slice A t.ks.length c) wr) : FmS (Ot B W0.heap.size wr) wr (.mk o ex0 (t.ks.map (fun u => psF u b))) none A := by
  have ht := h.row.tree o ex0 rfl
  rw [List.take_length] at ht
  refine ⟨RepS.leaf rfl, ht.mono (fun x hx => ?_)⟩
  rcases hx.1 with q | q
  · exact q.imp id (fun p => ⟨p, hx.2⟩)
  · exact .inr ⟨(h.row.own_lt q).1, hx.2⟩

set_option maxRecDepth 100000 in
set_option maxHeartbeats 16000000 in
theorem rf_pushNt (B : Nat) (t : Fx) (E A : Option Addr) (dd c : Nat) (w : World) (ho : t.op = 3 ∨ t.op = 4 ∨ t.op = 6 ∨ t.op = 7 ∨ t.op = 8 ∨ t.op = 10 ∨ t.op = 11 ∨ t.op = 12) (hn : t.ks.length ≤ 1000000) (hB : B ≤ w.heap.size) (hR : Fm B w t E A) (hI : PuI 47 B t) :
    Calls Try.prog 47 #[fV t E dd A c, .bool true] w (PuP B (psF t true) w) := by
  obtain ⟨W0, hW0⟩ : ∃ W, (w.alloc (.cells (fC t E dd A c) 27)).alloc (.cells fZ 27) = W := ⟨_, rfl⟩
  have hP := PuW.mk' (dd := dd) (c := c) hB hR
  rw [hW0] at hP
  obtain ⟨n, hnn⟩ : ∃ n, t.ks.length = n := ⟨_, rfl⟩
  have HM : Hid (n = t.ks.length) := Lib.hid hnn.symm
  have hW0n : (w.alloc (.cells #[.int .i64 t.op, .int .i64 t.e.op, .int .i64 t.e.vr, .string t.e.nm, .slice E t.e.ks.length dd, .slice A n c] 27)).alloc (.cells fZ 27) = W0 := by rw [← hnn]; exact hW0
  show Calls Try.prog 47 #[.agg #[.int .i64 t.op, .int .i64 t.e.op, .int .i64 t.e.vr, .string t.e.nm, .slice E t.e.ks.length dd, .slice A t.ks.length c], .bool true] w _
  rw [hnn]
  obtain ⟨o, hoo⟩ : ∃ o, dualF t.op true = o := ⟨_, rfl⟩
  have X : Hid (psF t true = .mk o ex0 (t.ks.map (fun u => psF u true))) := Lib.hid (by
    have h := psF_eq t true
    rw [if_neg (by omega), if_neg (by omega), if_neg (by omega), if_neg (by omega)] at h
    rw [h, ← hoo] <;> rfl)
  have HI := Lib.hid hI
  have HPW := Lib.hid hP
  have HB := Lib.hid hB
  have HBW : Hid (B ≤ W0.heap.size) := Lib.hid (by have := hP.al.size; omega)
  have p0 : W0.cell? ⟨w.heap.size, 0, none⟩ = some (.int .i64 t.op) := hP.b0.cell 0
  have pl := hP.b0.lt
  have HO := Lib.hid ho
  have HWW := Lib.hid hW0n
  have HOO := Lib.hid hoo
  have hn1 : n ≤ 1000000 := by omega
  clear hoo hP hI hR hB hW0 hW0n ho hnn hn
  go_enter Try.func47, Try.ntmps47
  go_upto_region 1 with (fail)
  rw [HWW.out]
  have g1 : (t.op == 1) = false := by have := HO.out; simp; omega
  have g2 : (t.op == 2) = false := by have := HO.out; simp; omega
  have g5 : (t.op == 5) = false := by have := HO.out; simp; omega
  have g9 : (t.op == 9) = false := by have := HO.out; simp; omega
  have g13 : (t.op == 13) = false := by have := HO.out; simp; omega
  go_upto_region 18 with (fail)
  clear g1 g2 g5 g9 g13
  go_upto_region 21 with (go_at_call 74; (with_reducible refine (rf_other t.op _ HO.out).mono ?_); rintro e wo ⟨rfl, hwo⟩; have hwo := hwo.symm; subst hwo)
  rw [HOO.out]
  clear p0 pl
  obtain ⟨W6, hW6⟩ : ∃ W, W0.alloc (.cells #[] 27) = W := ⟨_, rfl⟩
  have hP0 : Hid (RpL B t true W0 0 (.slice (some ⟨W0.heap.size, 0, none⟩) 0 0) W6) := Lib.hid (by
    rw [← hW6]
    exact ⟨bal _ _, RowG.made _ _ _ (Nat.le_refl _)⟩)
  have HW6 := Lib.hid hW6
  clear hW6
  go_upto_region 22 with (fail)
  rw [HW6.out]
  go_wp2
  go_loopw [7, 8] (fun v i wr => ∃ (j : Nat) (Av : Option Addr) (cv : Nat), j ≤ n ∧ v = .slice Av j cv ∧ i = .int .i64 (j : Int) ∧ Hid (RpL B t true W0 j (.slice Av j cv) wr)) (fun v i _ => n - (intOf i).toNat)
  case atStart => exact ⟨0, some ⟨W0.heap.size, 0, none⟩, 0, Nat.zero_le _, rfl, rfl, hP0⟩
  case round =>
    obtain ⟨i, Av, cv, hi, rfl, rfl, HP⟩ := hrel
    have x5 : wr.cell? ⟨w.heap.size, 5, none⟩ = some (.slice A n c) := by
      have h : wr.cell? ⟨w.heap.size, 5, none⟩ = some (.slice A t.ks.length c) := (HPW.out.b0.below HP.out.al HPW.out.b0.lt).cell 5
      rw [← HM.out] at h
      exact h
    by_cases hlt : i < n
    · have l1 : (i : Int) < (n : Int) := by omega
      have l0 : (0 : Int) ≤ (i : Int) := by omega
      have hi2 : i < t.ks.length := by rw [← HM.out]; exact hlt
      obtain ⟨bb, f, rfl, hbb, hc⟩ := HPW.out.rp.2.out (by omega)
      obtain ⟨ea, ec, ka, kc, hat, r0, r1⟩ := hc i hi2
      have hzs := HP.out.al.size
      have hat2 : FAt wr bb (f + i * 6) (fkd t.ks i) ea ec ka kc := hat.turn (fun o => World.cell?_of_block (a := ⟨bb, o, none⟩) (HP.out.al.block bb (by have := HBW.out; omega)))
      have HR0 : Hid (Fm B W0 (fkd t.ks i) ea ka) := Lib.hid ⟨r0, r1⟩
      obtain ⟨hl, ea2, ka2, ec2, kc2, hown, hkk⟩ := HP.out.row
      have HC : Hid (Calls Try.prog 47 #[fV (fkd t.ks i) ea ec ka kc, .bool true] wr (PuP B (psF (fkd t.ks i) true) wr)) := Lib.hid (HI.out i hi2 _ _ _ _ _ wr (by have := HBW.out; omega) (HR0.out.under (HP.out.al.mono HBW.out)))
      obtain ⟨cs, hcs⟩ : ∃ cs, csF ((t.ks.take i).map (fun u => psF u true)) ea2 ka2 ec2 kc2 = cs := ⟨_, rfl⟩
      obtain ⟨u, hu⟩ : ∃ u, fkd t.ks i = u := ⟨_, rfl⟩
      obtain ⟨y, hy⟩ : ∃ y, psF u true = y := ⟨_, rfl⟩
      have HST : Hid (∀ w1 w8 E1 A1 d1 c1 A8 c8, Below wr.heap.size wr w1 → FmS (Ot B wr.heap.size w1) w1 y E1 A1 → (w1.alloc (.cells (fC y E1 d1 A1 c1) 27)).grownBy w8 (Value.slice Av i cv).ownBlock → w8.ownsRow W0.heap.size 27 6 (.slice A8 (i + 1) c8) (i + 1) (cs ++ (fC y E1 d1 A1 c1).toList) → (∀ k, (Value.slice A8 (i + 1) c8).ownBlock = some k → (Value.slice Av i cv).ownBlock = some k ∨ k = (w1.alloc (.cells (fC y E1 d1 A1 c1) 27)).heap.size) →
          RpL B t true W0 (i + 1) (.slice A8 (i + 1) c8) w8) := Lib.hid (fun w1 w8 E1 A1 d1 c1 A8 c8 h1 hF hg h8 hat => by
        rw [← hy, ← hu] at hF hg h8 hat
        rw [← hcs] at h8
        exact rpl_step HP.out HBW.out hi2 hl hown hkk h1 hF hg h8 hat)
      have HOW : Hid (∀ wx, Below wr.heap.size wr wx → wx.ownsRow W0.heap.size 27 6 (.slice Av i cv) i cs) := Lib.hid (fun wx hx => by rw [← hcs]; exact own_keepG hown hx)
      rw [hu] at HC hat2
      rw [hy] at HC
      obtain ⟨d0, d1', d2, d3, d4, d5⟩ := hat2
      clear hu hy hcs hown hkk hl hat r0 r1 hc hbb
      go_wp2_with (first
        | (at_builtin; refine wpList_app_fx rfl (.tmp 91) (.tmp 99) rfl w1 W0.heap.size i (.slice Av i cv) cs rfl (HOW.out _ HB1.out) y E1 A1 d1 c1 rfl HLE.out (by omega) ?_; intro A8 c8 w8 hO8 hg8 ha8; have I8 := Lib.hid (HST.out _ _ _ _ _ _ _ _ HB1.out HF1.out hg8 hO8 ha8); clear hO8 hg8 ha8)
        | (go_at_call 47; (with_reducible refine HC.out.mono ?_); rintro e w1 ⟨E1, d1, A1, c1, rfl, hF1, hb1⟩; have HF1 := Lib.hid hF1; have HB1 := Lib.hid hb1; have HLE : Hid (W0.heap.size ≤ w1.heap.size) := Lib.hid (Nat.le_trans HP.out.al.size hb1.size); clear hF1 hb1))
      go_roundw
      case rel => exact ⟨i + 1, A8, c8, by omega, rfl, by go_num, I8⟩
      case measure => simp [intOf]; try omega
    · have l1 : ¬ (i : Int) < (n : Int) := by omega
      obtain rfl : i = n := by omega
      have zz := HPW.out.b1.below HP.out.al HPW.out.b1.lt
      have z0 := zz.cell 0
      have z1 := zz.cell 1
      have z2 := zz.cell 2
      have z3 := zz.cell 3
      have z4 := zz.cell 4
      have z5 := zz.cell 5
      have q0 := zz.frozen 0
      have q1 := zz.frozen 1
      have q2 := zz.frozen 2
      have q3 := zz.frozen 3
      have q4 := zz.frozen 4
      have q5 := zz.frozen 5
      have zl := zz.lt
      have HZ := Lib.hid zz
      have hdn := HP.out
      rw [HM.out] at hdn
      have HF := Lib.hid (rpl_done (o := o) hdn)
      clear zz hdn
      go_wp2
      have hz := HPW.out.sz
      refine bodyPost_ret (res_fx rfl _ _ (w.heap.size + 1) _ _ _ _ _ _ rfl (z6_ret _ _ _ _ _ _ HZ.out)) rfl ?_
      rw [X.out]
      have h := z6_keep (.int .i64 o) (.int .i64 0) (.int .i64 0) (.string ⟨#[]⟩) (.slice none 0 0) (.slice Av i cv) (w := w) rfl HB.out (HPW.out.al.trans (HP.out.al.mono HPW.out.al.size)) (Nat.le_of_eq hz.symm) (by have := HP.out.al.size; omega) HF.out
      exact ⟨none, 0, Av, cv, by show _ = Ending.returned (.agg #[.int .i64 o, .int .i64 0, .int .i64 0, .string ⟨#[]⟩, .slice none 0 0, .slice Av (t.ks.map (fun u => psF u true)).length cv]); rw [List.length_map, ← HM.out], h.1, h.2⟩

set_option maxRecDepth 100000 in
set_option maxHeartbeats 16000000 in
theorem rf_pushNf (B : Nat) (t : Fx) (E A : Option Addr) (dd c : Nat) (w : World) (ho : t.op = 3 ∨ t.op = 4 ∨ t.op = 6 ∨ t.op = 7 ∨ t.op = 8 ∨ t.op = 10 ∨ t.op = 11 ∨ t.op = 12) (hn : t.ks.length ≤ 1000000) (hB : B ≤ w.heap.size) (hR : Fm B w t E A) (hI : PuI 47 B t) :
    Calls Try.prog 47 #[fV t E dd A c, .bool false] w (PuP B (psF t false) w) := by
  obtain ⟨W0, hW0⟩ : ∃ W, (w.alloc (.cells (fC t E dd A c) 27)).alloc (.cells fZ 27) = W := ⟨_, rfl⟩
  have hP := PuW.mk' (dd := dd) (c := c) hB hR
  rw [hW0] at hP
  obtain ⟨n, hnn⟩ : ∃ n, t.ks.length = n := ⟨_, rfl⟩
  have HM : Hid (n = t.ks.length) := Lib.hid hnn.symm
  have hW0n : (w.alloc (.cells #[.int .i64 t.op, .int .i64 t.e.op, .int .i64 t.e.vr, .string t.e.nm, .slice E t.e.ks.length dd, .slice A n c] 27)).alloc (.cells fZ 27) = W0 := by rw [← hnn]; exact hW0
  show Calls Try.prog 47 #[.agg #[.int .i64 t.op, .int .i64 t.e.op, .int .i64 t.e.vr, .string t.e.nm, .slice E t.e.ks.length dd, .slice A t.ks.length c], .bool false] w _
  rw [hnn]
  obtain ⟨o, hoo⟩ : ∃ o, t.op = o := ⟨_, rfl⟩
  have X : Hid (psF t false = .mk o ex0 (t.ks.map (fun u => psF u false))) := Lib.hid (by
    have h := psF_eq t false
    rw [if_neg (by omega), if_neg (by omega), if_neg (by omega), if_neg (by omega)] at h
    rw [h, ← hoo] <;> rfl)
  have HI := Lib.hid hI
  have HPW := Lib.hid hP
  have HB := Lib.hid hB
  have HBW : Hid (B ≤ W0.heap.size) := Lib.hid (by have := hP.al.size; omega)
  have p0 : W0.cell? ⟨w.heap.size, 0, none⟩ = some (.int .i64 t.op) := hP.b0.cell 0
  have pl := hP.b0.lt
  have HO := Lib.hid ho
  have HWW := Lib.hid hW0n
  have HOO := Lib.hid hoo
  have hn1 : n ≤ 1000000 := by omega
  clear hoo hP hI hR hB hW0 hW0n ho hnn hn
  go_enter Try.func47, Try.ntmps47
  go_upto_region 1 with (fail)
  rw [HWW.out]
  have g1 : (t.op == 1) = false := by have := HO.out; simp; omega
  have g2 : (t.op == 2) = false := by have := HO.out; simp; omega
  have g5 : (t.op == 5) = false := by have := HO.out; simp; omega
  have g9 : (t.op == 9) = false := by have := HO.out; simp; omega
  have g13 : (t.op == 13) = false := by have := HO.out; simp; omega
  go_upto_region 18 with (fail)
  clear g1 g2 g5 g9 g13
  go_upto_region 21 with (fail)
  rw [HOO.out]
  clear p0 pl
  obtain ⟨W6, hW6⟩ : ∃ W, W0.alloc (.cells #[] 27) = W := ⟨_, rfl⟩
  have hP0 : Hid (RpL B t false W0 0 (.slice (some ⟨W0.heap.size, 0, none⟩) 0 0) W6) := Lib.hid (by
    rw [← hW6]
    exact ⟨bal _ _, RowG.made _ _ _ (Nat.le_refl _)⟩)
  have HW6 := Lib.hid hW6
  clear hW6
  go_upto_region 22 with (fail)
  rw [HW6.out]
  go_wp2
  go_loopw [7, 8] (fun v i wr => ∃ (j : Nat) (Av : Option Addr) (cv : Nat), j ≤ n ∧ v = .slice Av j cv ∧ i = .int .i64 (j : Int) ∧ Hid (RpL B t false W0 j (.slice Av j cv) wr)) (fun v i _ => n - (intOf i).toNat)
  case atStart => exact ⟨0, some ⟨W0.heap.size, 0, none⟩, 0, Nat.zero_le _, rfl, rfl, hP0⟩
  case round =>
    obtain ⟨i, Av, cv, hi, rfl, rfl, HP⟩ := hrel
    have x5 : wr.cell? ⟨w.heap.size, 5, none⟩ = some (.slice A n c) := by
      have h : wr.cell? ⟨w.heap.size, 5, none⟩ = some (.slice A t.ks.length c) := (HPW.out.b0.below HP.out.al HPW.out.b0.lt).cell 5
      rw [← HM.out] at h
      exact h
    by_cases hlt : i < n
    · have l1 : (i : Int) < (n : Int) := by omega
      have l0 : (0 : Int) ≤ (i : Int) := by omega
      have hi2 : i < t.ks.length := by rw [← HM.out]; exact hlt
      obtain ⟨bb, f, rfl, hbb, hc⟩ := HPW.out.rp.2.out (by omega)
      obtain ⟨ea, ec, ka, kc, hat, r0, r1⟩ := hc i hi2
      have hzs := HP.out.al.size
      have hat2 : FAt wr bb (f + i * 6) (fkd t.ks i) ea ec ka kc := hat.turn (fun o => World.cell?_of_block (a := ⟨bb, o, none⟩) (HP.out.al.block bb (by have := HBW.out; omega)))
      have HR0 : Hid (Fm B W0 (fkd t.ks i) ea ka) := Lib.hid ⟨r0, r1⟩
      obtain ⟨hl, ea2, ka2, ec2, kc2, hown, hkk⟩ := HP.out.row
      have HC : Hid (Calls Try.prog 47 #[fV (fkd t.ks i) ea ec ka kc, .bool false] wr (PuP B (psF (fkd t.ks i) false) wr)) := Lib.hid (HI.out i hi2 _ _ _ _ _ wr (by have := HBW.out; omega) (HR0.out.under (HP.out.al.mono HBW.out)))
      obtain ⟨cs, hcs⟩ : ∃ cs, csF ((t.ks.take i).map (fun u => psF u false)) ea2 ka2 ec2 kc2 = cs := ⟨_, rfl⟩
      obtain ⟨u, hu⟩ : ∃ u, fkd t.ks i = u := ⟨_, rfl⟩
      obtain ⟨y, hy⟩ : ∃ y, psF u false = y := ⟨_, rfl⟩
      have HST : Hid (∀ w1 w8 E1 A1 d1 c1 A8 c8, Below wr.heap.size wr w1 → FmS (Ot B wr.heap.size w1) w1 y E1 A1 → (w1.alloc (.cells (fC y E1 d1 A1 c1) 27)).grownBy w8 (Value.slice Av i cv).ownBlock → w8.ownsRow W0.heap.size 27 6 (.slice A8 (i + 1) c8) (i + 1) (cs ++ (fC y E1 d1 A1 c1).toList) → (∀ k, (Value.slice A8 (i + 1) c8).ownBlock = some k → (Value.slice Av i cv).ownBlock = some k ∨ k = (w1.alloc (.cells (fC y E1 d1 A1 c1) 27)).heap.size) →
          RpL B t false W0 (i + 1) (.slice A8 (i + 1) c8) w8) := Lib.hid (fun w1 w8 E1 A1 d1 c1 A8 c8 h1 hF hg h8 hat => by
        rw [← hy, ← hu] at hF hg h8 hat
        rw [← hcs] at h8
        exact rpl_step HP.out HBW.out hi2 hl hown hkk h1 hF hg h8 hat)
      have HOW : Hid (∀ wx, Below wr.heap.size wr wx → wx.ownsRow W0.heap.size 27 6 (.slice Av i cv) i cs) := Lib.hid (fun wx hx => by rw [← hcs]; exact own_keepG hown hx)
      rw [hu] at HC hat2
      rw [hy] at HC
      obtain ⟨d0, d1', d2, d3, d4, d5⟩ := hat2
      clear hu hy hcs hown hkk hl hat r0 r1 hc hbb
      go_wp2_with (first
        | (at_builtin; refine wpList_app_fx rfl (.tmp 91) (.tmp 99) rfl w1 W0.heap.size i (.slice Av i cv) cs rfl (HOW.out _ HB1.out) y E1 A1 d1 c1 rfl HLE.out (by omega) ?_; intro A8 c8 w8 hO8 hg8 ha8; have I8 := Lib.hid (HST.out _ _ _ _ _ _ _ _ HB1.out HF1.out hg8 hO8 ha8); clear hO8 hg8 ha8)
        | (go_at_call 47; (with_reducible refine HC.out.mono ?_); rintro e w1 ⟨E1, d1, A1, c1, rfl, hF1, hb1⟩; have HF1 := Lib.hid hF1; have HB1 := Lib.hid hb1; have HLE : Hid (W0.heap.size ≤ w1.heap.size) := Lib.hid (Nat.le_trans HP.out.al.size hb1.size); clear hF1 hb1))
      go_roundw
      case rel => exact ⟨i + 1, A8, c8, by omega, rfl, by go_num, I8⟩
      case measure => simp [intOf]; try omega
    · have l1 : ¬ (i : Int) < (n : Int) := by omega
      obtain rfl : i = n := by omega
      have zz := HPW.out.b1.below HP.out.al HPW.out.b1.lt
      have z0 := zz.cell 0
      have z1 := zz.cell 1
      have z2 := zz.cell 2
      have z3 := zz.cell 3
      have z4 := zz.cell 4
      have z5 := zz.cell 5
      have q0 := zz.frozen 0
      have q1 := zz.frozen 1
      have q2 := zz.frozen 2
      have q3 := zz.frozen 3
      have q4 := zz.frozen 4
      have q5 := zz.frozen 5
      have zl := zz.lt
      have HZ := Lib.hid zz
      have hdn := HP.out
      rw [HM.out] at hdn
      have HF := Lib.hid (rpl_done (o := o) hdn)
      clear zz hdn
      go_wp2
      have hz := HPW.out.sz
      refine bodyPost_ret (res_fx rfl _ _ (w.heap.size + 1) _ _ _ _ _ _ rfl (z6_ret _ _ _ _ _ _ HZ.out)) rfl ?_
      rw [X.out]
      have h := z6_keep (.int .i64 o) (.int .i64 0) (.int .i64 0) (.string ⟨#[]⟩) (.slice none 0 0) (.slice Av i cv) (w := w) rfl HB.out (HPW.out.al.trans (HP.out.al.mono HPW.out.al.size)) (Nat.le_of_eq hz.symm) (by have := HP.out.al.size; omega) HF.out
      exact ⟨none, 0, Av, cv, by show _ = Ending.returned (.agg #[.int .i64 o, .int .i64 0, .int .i64 0, .string ⟨#[]⟩, .slice none 0 0, .slice Av (t.ks.map (fun u => psF u false)).length cv]); rw [List.length_map, ← HM.out], h.1, h.2⟩
end Go.Proofs.Ytnjkphopklbogaa
namespace Go.Proofs.Ytnjkphopklbogaa
open Go.RowKit

/-- One part more, if it is new. -/
def addF (l : List Fx) (p : Fx) : List Fx := if anL p l then l else l ++ [p]
def dedF (ps : List Fx) : List Fx := ps.foldl addF []
theorem dedF_take {D : List Fx} {i : Nat} (h : i < D.length) : dedF (D.take (i + 1)) = addF (dedF (D.take i)) (fkd D i) := by
  unfold dedF
  rw [List.take_add_one, List.foldl_append, List.getElem?_eq_getElem h]
  simp [fkd, List.getD, List.getElem?_eq_getElem h]
theorem addF_sub {l : List Fx} {p u : Fx} (h : u ∈ addF l p) : u ∈ l ∨ u = p := by
  unfold addF at h
  split at h
  · exact .inl h
  · rcases List.mem_append.1 h with q | q
    · exact .inl q
    · exact .inr (by simpa using q)
theorem dedF_sub : ∀ (D : List Fx) (l : List Fx) (u : Fx), u ∈ D.foldl addF l → u ∈ l ∨ u ∈ D
  | [], _, _, h => .inl h
  | p :: r, l, u, h => by
    rcases dedF_sub r (addF l p) u h with q | q
    · rcases addF_sub q with q | q
      · exact .inl q
      · exact .inr (by rw [q]; exact List.mem_cons_self ..)
    · exact .inr (List.mem_cons_of_mem _ q)
theorem addF_len (l : List Fx) (p : Fx) : (addF l p).length ≤ l.length + 1 := by
  unfold addF
  split
  · omega
  · simp
theorem dedF_len : ∀ (D : List Fx) (l : List Fx), (D.foldl addF l).length ≤ l.length + D.length
  | [], _ => by simp
  | p :: r, l => by
    have h := dedF_len r (addF l p)
    have h2 := addF_len l p
    rw [List.foldl_cons, List.length_cons]
    omega
/-- Where the parts of the answer lie: in the argument's blocks, or made since. -/
def Zq (B K x : Nat) : Prop := x < B ∨ K ≤ x
/-- The loop's state: left at bl, the row of parts that were found. -/
structure PtL (bl B : Nat) (w2 : World) (v : Value) (l : List Fx) (wr : World) (kk : Int) : Prop where
  lf : Lq bl w2 wr
  bb : Blk wr bl 3 #[.int .i64 kk]
  row : RowG (Zq B w2.heap.size) wr w2.heap.size v l.length l
theorem PtL.below {bl B : Nat} {w2 wr w' : World} {v : Value} {l : List Fx} {kk : Int} (h : PtL bl B w2 v l wr kk) (hb : Below wr.heap.size wr w') : PtL bl B w2 v l w' kk :=
  ⟨h.lf.trans (Frm.of_below hb), h.bb.below hb h.bb.lt, h.row.below hb⟩
theorem PtL.step {bl B : Nat} {w2 wr w4 w8 : World} {v v8 : Value} {l : List Fx} {kk k4 : Int} {ea ka : Nat → Option Addr} {ec kc : Nat → Nat} {p : Fx} {E1 A1 : Option Addr} {d1 c1 : Nat} (h : PtL bl B w2 v l wr kk) (hbl : bl < w2.heap.size) (hB : B ≤ bl)
    (ho : wr.ownsRow w2.heap.size 27 6 v l.length (csF l ea ka ec kc))
    (hk : ∀ j, j < l.length → FmS (fun x => (Zq B w2.heap.size x ∧ x < wr.heap.size) ∧ v.ownBlock ≠ some x) wr (fkd l j) (ea j) (ka j))
    (hL : Lq bl wr w4) (hb4 : Blk w4 bl 3 #[.int .i64 k4]) (hF : FmS (Od (fun x => x < B) bl wr.heap.size w4) w4 p E1 A1)
    (hg : (w4.alloc (.cells (fC p E1 d1 A1 c1) 27)).grownBy w8 v.ownBlock) (ho8 : w8.ownsRow w2.heap.size 27 6 v8 (l.length + 1) (csF l ea ka ec kc ++ (fC p E1 d1 A1 c1).toList))
    (hat : ∀ k, v8.ownBlock = some k → v.ownBlock = some k ∨ k = (w4.alloc (.cells (fC p E1 d1 A1 c1) 27)).heap.size) : PtL bl B w2 v8 (l ++ [p]) w8 k4 := by
  obtain ⟨W, hW⟩ : ∃ W, w4.alloc (.cells (fC p E1 d1 A1 c1) 27) = W := ⟨_, rfl⟩
  have h1W : Below w4.heap.size w4 W := by rw [← hW]; exact bal _ _
  rw [hW] at hg hat
  have h0s := h.lf.size
  have hLs := hL.size
  have hWs := h1W.size
  have hgs := hg.size
  have hown : ∀ k, v.ownBlock = some k → w2.heap.size ≤ k ∧ k < wr.heap.size := fun k hk => ho.lt k hk
  have hk4 : ∀ j, j < l.length → FmS (fun x => (Zq B w2.heap.size x ∧ x < w4.heap.size) ∧ v.ownBlock ≠ some x) w4 (fkd l j) (ea j) (ka j) := fun j hj =>
    ((hk j hj).kept (fun x hx => hL.block x hx.1.2 (by have := hx.1.1; rcases this with q | q <;> omega))).mono (fun x hx => ⟨⟨hx.1.1, by have := hx.1.2; omega⟩, hx.2⟩)
  have hpush := RowG.push (Z := Zq B w2.heap.size) (P := Od (fun x => x < B) bl wr.heap.size w4) (w := w4) (W := W) (K := w2.heap.size) (ts := l) rfl hk4 h1W (hF.kept (fun x hx => h1W.block x (by rcases hx with q | q <;> omega))) (fun x hx => ⟨⟨?_, ?_⟩, fun e => ?_⟩) hg ho8 hat
  · refine ⟨⟨(hg.os.trans h1W.os).trans (hL.os.trans h.lf.os), (hg.tape.trans h1W.tape).trans (hL.tape.trans h.lf.tape), (hg.output.trans h1W.output).trans (hL.output.trans h.lf.output), by omega, fun k hk hn => ?_⟩, (hg.block bl (by omega) (fun e => by have := hown bl e.symm; omega)).trans (hb4.below h1W hb4.lt), by rw [List.length_append]; exact hpush⟩
    exact ((hg.block k (by omega) (fun e => by have := hown k e.symm; omega)).trans (h1W.block k (by omega))).trans ((hL.block k (by omega) hn).trans (h.lf.block k hk hn))
  · rcases hx with q | q
    · exact .inl q.2
    · exact .inr (by omega)
  · rcases hx with q | q <;> omega
  · have := hown x e
    rcases hx with q | q <;> omega
/-- What Parts answers. -/
def PrtP (l : List Fx) (w : World) (e : Ending) (w' : World) : Prop := ∃ A c, e = .returned (.slice A l.length c) ∧ RepF w'.heap.size w' A (.mk 0 ex0 l) ∧ Below w.heap.size w w'
set_option maxRecDepth 100000 in
set_option maxHeartbeats 16000000 in
theorem pr_Parts (t : Fx) (E A : Option Addr) (dd c : Nat) (w : World) (hs : t.sz ≤ 10000000) (hR : Fm w.heap.size w t E A) : Calls Try.prog 24 #[fV t E dd A c] w (PrtP (dedF (prtF t)) w) := by
  obtain ⟨W0, hW0⟩ : ∃ W, w.alloc (.cells (fC t E dd A c) 27) = W := ⟨_, rfl⟩
  have hb0 : Below w.heap.size w W0 := by rw [← hW0]; exact bal _ _
  have hz0 : W0.heap.size = w.heap.size + 1 := by rw [← hW0]; simp
  have HC : Hid (Calls Try.prog 48 #[fV t E dd A c, .func (.func 49) #[] #[]] W0 (ColF W0 (prtF t))) := Lib.hid (pr_collectF t E A dd c W0 (by omega) (hR.step hb0))
  obtain ⟨p0, p1, p2, p3, p4, p5⟩ : FAt W0 w.heap.size 0 t E dd A c := by rw [← hW0]; exact fal t E A dd c w
  obtain ⟨D, hD⟩ : ∃ D, prtF t = D := ⟨_, rfl⟩
  have hDs : ∀ u, u ∈ D → u.sz ≤ 10000000 := fun u hu => by
    rw [← hD] at hu
    unfold prtF at hu
    split at hu
    · cases hu
    · have := preF_sz t u hu; omega
  have hDl : D.length ≤ 10000000 := by
    rw [← hD]
    unfold prtF
    split
    · simp
    · have := preF_len t; omega
  rw [hD] at HC ⊢
  have HDS := Lib.hid hDs
  have HW0 := Lib.hid hW0
  have HB0 := Lib.hid hb0
  have HZ0 := Lib.hid hz0
  clear hD hDs hR hs hW0 hb0 hz0
  obtain ⟨n, hn⟩ : ∃ n, D.length = n := ⟨_, rfl⟩
  have HN : Hid (n = D.length) := Lib.hid hn.symm
  have hn1 : n ≤ 10000000 := by omega
  clear hn hDl
  go_enter Try.func24, Try.ntmps24
  go_upto_region 1 with (fail)
  rw [HW0.out]
  go_upto_region 2 with (go_at_call 48; (with_reducible refine HC.out.mono ?_); rintro e w1 hcc; obtain ⟨A1, c1, rfl, hrow1, hb1⟩ := hcc; have HR1 := Lib.hid hrow1; have HB1 := Lib.hid hb1; clear hrow1 hb1)
  rw [← HN.out]
  clear p0 p1 p2 p3 p4 p5
  go_upto_region 3 with (fail)
  obtain ⟨W2, hW2⟩ : ∃ W, w1.alloc (.cells #[.int .i64 262144] 3) = W := ⟨_, rfl⟩
  obtain ⟨bl, hbl⟩ : ∃ b, w1.heap.size = b := ⟨_, rfl⟩
  have hb12 : Below w1.heap.size w1 W2 := by rw [← hW2]; exact bal _ _
  have hz2 : W2.heap.size = bl + 1 := by rw [← hW2, ← hbl]; simp
  have hB : W0.heap.size ≤ bl := by rw [← hbl]; exact HB1.out.size
  have HP0 : Hid (PtL bl W0.heap.size W2 (.slice none 0 0) [] W2 262144) := Lib.hid ⟨Frm.refl _ _, by rw [← hW2, ← hbl]; exact Blk.new _ _ _, RowG.nil _ _ _⟩
  have HAT : Hid (∀ i, i < n → ∃ b ea ec ka kc, A1 = some ⟨b, 0, none⟩ ∧ b < bl ∧ FAt W2 b (0 + i * 6) (fkd D i) ea ec ka kc ∧ Fm W0.heap.size W2 (fkd D i) ea ka) := Lib.hid (fun i hi => by
    have hr := HR1.out
    obtain ⟨b, ea, ec, ka, kc, e1, e2, e3, e4, e5⟩ := hr.at (i := i) (by rw [← HN.out]; exact hi)
    exact ⟨b, ea, ec, ka, kc, e1, by omega, e4.turn (fun o => World.cell?_of_block (a := ⟨b, o, none⟩) (hb12.block b e3)), (e5.kept (fun x hx => hb12.block x hx.1.2)).toR (fun x hx => hx.1.1)⟩)
  have HB2 : Hid (Below w.heap.size w W2) := Lib.hid ((HB0.out.trans (HB1.out.mono (by have := HZ0.out; omega))).trans (hb12.mono (by have := HB1.out.size; have := HZ0.out; omega)))
  have HW2 := Lib.hid hW2
  have HZ2 := Lib.hid hz2
  have HB := Lib.hid hB
  rw [hW2, hbl]
  clear HR1 HB1 hb12 hz2 hB hW2 hbl HW2
  go_wp2
  go_loopw [5, 13] (fun v i wr => ∃ (j : Nat) (Av : Option Addr) (m cv : Nat) (kk : Int), j ≤ n ∧ v = .slice Av m cv ∧ i = .int .i64 (j : Int) ∧ Hid (m = (dedF (D.take j)).length) ∧ Hid (PtL bl W0.heap.size W2 (.slice Av m cv) (dedF (D.take j)) wr kk)) (fun v i _ => n - (intOf i).toNat)
  case atStart => exact ⟨0, none, 0, 0, 262144, Nat.zero_le _, rfl, rfl, Lib.hid rfl, HP0⟩
  case round =>
    obtain ⟨i, Av, m, cv, kk, hi, rfl, rfl, HM, HP⟩ := hrel
    by_cases hlt : i < n
    · have l1 : (i : Int) < (n : Int) := by omega
      have l0 : (0 : Int) ≤ (i : Int) := by omega
      obtain ⟨b, ea, ec, ka, kc, rfl, hbb, hat, hfm⟩ := HAT.out i hlt
      have hws := HP.out.lf.size
      have hz2 := HZ2.out
      have hB := HB.out
      have hat2 : FAt wr b (i * 6) (fkd D i) ea ec ka kc := by
        have h := hat.turn (w' := wr) (fun o => World.cell?_of_block (a := ⟨b, o, none⟩) (HP.out.lf.block b (by omega) (by omega)))
        rwa [Nat.zero_add] at h
      have hfr : Fm W0.heap.size wr (fkd D i) ea ka := hfm.under (HP.out.lf.below2 (fun k hk e => by omega) (by omega))
      have hDi : fkd D i ∈ D := fkd_mem (by rw [← HN.out]; exact hlt)
      have hsp := HDS.out _ hDi
      have hded : dedF (D.take (i + 1)) = addF (dedF (D.take i)) (fkd D i) := dedF_take (by rw [← HN.out]; exact hlt)
      have hlm : (dedF (D.take i)).length ≤ 10000000 := by
        have h := dedF_len (D.take i) []
        have h2 : (D.take i).length ≤ n := by rw [List.length_take, ← HN.out]; omega
        have h3 : ([] : List Fx).length = 0 := rfl
        unfold dedF
        omega
      have hls : ∀ u, u ∈ dedF (D.take i) → u.sz ≤ 10000000 := fun u hu => by
        rcases dedF_sub _ _ u hu with q | q
        · cases q
        · exact HDS.out u (List.mem_of_mem_take q)
      obtain ⟨p, hp⟩ : ∃ p, fkd D i = p := ⟨_, rfl⟩
      obtain ⟨l, hl⟩ : ∃ l, dedF (D.take i) = l := ⟨_, rfl⟩
      rw [hp] at hat2 hfr hsp hded
      rw [hl] at hded hlm hls HM HP
      have HDD := Lib.hid hded
      obtain ⟨wk, hwk⟩ : ∃ wk, wr.alloc (.cells (fC p ea ec ka kc) 27) = wk := ⟨_, rfl⟩
      have hbk : Below wr.heap.size wr wk := by rw [← hwk]; exact bal _ _
      have hkv : Blk wk wr.heap.size 27 (fC p ea ec ka kc) := by rw [← hwk]; exact Blk.new wr 27 _
      have hPk := HP.out.below hbk
      have hm : m = l.length := HM.out
      have hlk : RepF wk.heap.size wk Av (.mk 0 ex0 l) := by
        have h := hPk.row
        rw [← hm] at h
        exact (h.tree 0 ex0 rfl).toR (fun x hx => hx.2)
      have HCT : Hid (Calls Try.prog 51 #[.slice Av m cv, .func (.func 50) #[] #[.pointer (some ⟨wr.heap.size, 0, none⟩)]] wk (ValP wk (anL p l))) := Lib.hid (by
        have h := pr_ContF p wr.heap.size ea ka ec kc (.mk 0 ex0 l) Av cv wk hkv ((hfr.more (by omega)).step hbk) (by omega) hlk (by show l.length ≤ _; omega) (fun u hu => by have := hls u hu; omega)
        rw [hm]
        exact h)
      have HPK := Lib.hid hPk
      have HKV := Lib.hid hkv
      have HFR : Hid (Fm W0.heap.size wk p ea ka) := Lib.hid (hfr.under (hbk.mono (by omega)))
      have hmb : m ≤ 10000000 := by omega
      have HSP := Lib.hid hsp
      have HWK := Lib.hid hwk
      obtain ⟨d0, d1, d2, d3, d4, d5⟩ := hat2
      clear hp hl hded hlm hls hbk hkv hPk hlk hsp hfr hfm hat hDi hwk hm HP hz2 hB hws hbb
      obtain ⟨q, hq⟩ : ∃ q, anL p l = q := ⟨_, rfl⟩
      rw [hq] at HCT
      have HQ := Lib.hid hq
      clear hq
      go_upto_region 7 with (fail)
      rw [HWK.out]
      clear d0 d1 d2 d3 d4 d5
      cases q
      · have HX : Hid (∀ w3, Below wk.heap.size wk w3 → PtL bl W0.heap.size W2 (.slice Av m cv) l w3 kk ∧ Blk w3 wr.heap.size 27 (fC p ea ec ka kc) ∧ Calls Try.prog 46 #[fV p ea ec ka kc, .pointer (some ⟨bl, 0, none⟩)] w3 (DetF (fun x => x < W0.heap.size) bl p w3)) := Lib.hid (fun w3 hb3 => by
          have hP3 := HPK.out.below hb3
          refine ⟨hP3, HKV.out.below hb3 HKV.out.lt, ?_⟩
          have hz2 := HZ2.out
          have hB := HB.out
          exact pr_det p.sz p (Nat.le_refl _) (by have := HSP.out; omega) bl ea ec ka kc kk w3 hP3.bb ((HFR.out.under (hb3.mono (by have := HPK.out.lf.size; omega))).toS.mono (fun x hx => ⟨by omega, hx⟩)))
        have HADD : Hid (dedF (D.take (i + 1)) = l ++ [p]) := Lib.hid (by rw [HDD.out]; unfold addF; rw [HQ.out]; rfl)
        go_wp2_with (first
          | (at_builtin; refine wpList_app_fx rfl (.tmp 22) (.tmp 25) rfl w4 W2.heap.size m (.slice Av m cv) cs rfl HOW4.out p E4 A4 d4 c4 rfl HLE.out (by omega) ?_; intro A8 c8 w8 hO8 hg8 ha8; have I8 := Lib.hid (HST.out A8 c8 w8 hO8 hg8 ha8); clear hO8 hg8 ha8)
          | (go_at_call 46; have _ := HB3; (with_reducible refine HD3.out.mono ?_); rintro e w4 hdd; obtain ⟨E4, d4, A4, c4, k4, rfl, hB4, hF4, hL4⟩ := hdd; obtain ⟨hl4, ea4, ka4, ec4, kc4, ho4, hk4⟩ := HP3.out.row; obtain ⟨cs, hcs⟩ : ∃ cs, csF l ea4 ka4 ec4 kc4 = cs := ⟨_, rfl⟩; have HOW4 : Hid (w4.ownsRow W2.heap.size 27 6 (.slice Av m cv) m cs) := Lib.hid (by rw [HM.out, ← hcs]; rw [HM.out] at ho4; exact own_eqb ho4 (fun k hk => hL4.block k (ho4.lt k hk).2 (fun e => by have := (ho4.lt k hk).1; have := HZ2.out; omega))); have HST : Hid (∀ A8 c8 w8, w8.ownsRow W2.heap.size 27 6 (.slice A8 (m + 1) c8) (m + 1) (cs ++ (fC p E4 d4 A4 c4).toList) → (w4.alloc (.cells (fC p E4 d4 A4 c4) 27)).grownBy w8 (Value.slice Av m cv).ownBlock → (∀ k, (Value.slice A8 (m + 1) c8).ownBlock = some k → (Value.slice Av m cv).ownBlock = some k ∨ k = (w4.alloc (.cells (fC p E4 d4 A4 c4) 27)).heap.size) → PtL bl W0.heap.size W2 (.slice A8 (m + 1) c8) (l ++ [p]) w8 k4) := Lib.hid (fun A8 c8 w8 hO hg ha => by rw [HM.out] at hO; exact HP3.out.step (by have := HZ2.out; omega) HB.out ho4 hk4 hL4 hB4 hF4 hg (by rw [hcs]; rw [HM.out]; exact hO) ha); have HLE : Hid (W2.heap.size ≤ w4.heap.size) := Lib.hid (Nat.le_trans HP3.out.lf.size hL4.size); clear hB4 hF4 hL4 hl4 ho4 hk4 hcs)
          | (go_at_call 51; (with_reducible refine HCT.out.mono ?_); rintro e w3 ⟨rfl, hb3⟩; obtain ⟨hP3, hk3, hd3⟩ := HX.out w3 hb3; have HP3 := Lib.hid hP3; have HD3 := Lib.hid hd3; have y0 := hk3.cell 0; have y1 := hk3.cell 1; have y2 := hk3.cell 2; have y3 := hk3.cell 3; have y4 := hk3.cell 4; have y5 := hk3.cell 5; have HB3 := Lib.hid hb3; clear hP3 hk3 hd3 hb3))
        exact ⟨⟨i + 1, A8, m + 1, c8, k4, by omega, rfl, by go_num, Lib.hid (by rw [HADD.out, List.length_append, ← HM.out]; rfl), by rw [HADD.out]; exact I8⟩, by simp [intOf] <;> omega⟩
      · have HADD : Hid (dedF (D.take (i + 1)) = l) := Lib.hid (by rw [HDD.out]; unfold addF; rw [HQ.out]; rfl)
        go_wp2_with (go_at_call 51; (with_reducible refine HCT.out.mono ?_); rintro e w3 ⟨rfl, hb3⟩; have HP3 := Lib.hid (HPK.out.below hb3); clear hb3)
        exact ⟨⟨i + 1, Av, m, cv, kk, by omega, rfl, by go_num, by rw [HADD.out]; exact HM, by rw [HADD.out]; exact HP3⟩, by simp [intOf] <;> omega⟩
    · have l1 : ¬ (i : Int) < (n : Int) := by omega
      obtain rfl : i = n := by omega
      have hDD : D.take i = D := List.take_of_length_le (by rw [← HN.out]; exact Nat.le_refl _)
      rw [hDD] at HM HP
      go_wp2
      go_ret
      have hr := HP.out.row
      rw [← HM.out] at hr
      have hz2 := HZ2.out
      have hB := HB.out
      have hz0 := HZ0.out
      exact ⟨Av, cv, by rw [← HM.out]; rfl, (hr.tree 0 ex0 rfl).toR (fun x hx => hx.2), HB2.out.trans (HP.out.lf.below2 (fun k hk e => by omega) (by omega))⟩
end Go.Proofs.Ytnjkphopklbogaa
