/- depths, Size and Deep of layer 32 (forms). Trees in blocks of a kind; Clone of a row of expressions; layer 30 (terms). The contract of Clone of a row of expressions; layer 30 (terms). The contract of detach; layer 30 (terms). The contract of detach; layer 30 (terms). detachedTerm of layer 32 (forms). The contract of detachedTerm; layer 32 (forms). Formulas in blocks of a kind; Clone of a row of formulas; layer 32 (forms). What lies while detached walks; layer 32 (forms). -/
import Derived.Test.YtnjkphopklbogaaMc
import Derived.Shelf.Slices.Turned
import Derived.Shelf.Lay
import Derived.Ground.NamesProg
import Derived.Ground.Names2Prog
import Derived.Test.YtnjkphopklbogaaMa
import Derived.Lib.Slices
import Derived.Deep.RegionLaw
import Derived.RegionTactic
import Derived.Deep.RegionHeld3
namespace Go.Proofs.Ytnjkphopklbogaa
open Go.RowKit
open Go.Shelf

def Try.laysMax_ren : Go.Shelf.Ren := ⟨fun | 113 => 41 | n => n, fun | 28 => 58 | 3 => 3 | 4 => 4 | 9 => 9 | 20 => 20 | 0 => 0 | n => n, fun | n => n⟩
theorem Try.laysMax : Go.Proofs.Lays.n113 Try.prog Try.laysMax_ren := {
  mixed := by kernel_rfl
  f113 := Try.func41.trans (congrArg some (by kernel_rfl))
  t0 := Try.underlying0
  a0 := Try.isAgg0
  z0 := Try.sizeOf0
  v0 := Try.zeroValue0
  t3 := Try.underlying3
  a3 := Try.isAgg3
  z3 := Try.sizeOf3
  v3 := Try.zeroValue3
  t4 := Try.underlying4
  a4 := Try.isAgg4
  z4 := Try.sizeOf4
  v4 := Try.zeroValue4
  t9 := Try.underlying9
  a9 := Try.isAgg9
  z9 := Try.sizeOf9
  v9 := Try.zeroValue9
  t20 := Try.underlying20
  a20 := Try.isAgg20
  z20 := Try.sizeOf20
  v20 := Try.zeroValue20
  t28 := Try.underlying58
  a28 := Try.isAgg58
  z28 := Try.sizeOf58
  v28 := Try.zeroValue58 }
mutual
def dl : Fx → Int → List Int | .mk _ _ ks, d => d :: dlL ks (d + 1)
def dlL : List Fx → Int → List Int
  | [], _ => []
  | t :: r, d => dl t d ++ dlL r d
end
mutual
theorem dl_len : ∀ (t : Fx) (d : Int), (dl t d).length ≤ t.sz
  | .mk o e ks, d => by
    have h := dlL_len ks (d + 1)
    have hz : (Fx.mk o e ks).sz = e.sz + fszL ks := rfl
    have hp := sz_pos e
    show (d :: dlL ks (d + 1)).length ≤ _
    rw [List.length_cons]
    omega
theorem dlL_len : ∀ (l : List Fx) (d : Int), (dlL l d).length ≤ fszL l
  | [], _ => Nat.le_refl _
  | t :: r, d => by
    have h1 := dl_len t d
    have h2 := dlL_len r d
    have hz : fszL (t :: r) = t.sz + fszL r := rfl
    show (dl t d ++ dlL r d).length ≤ _
    rw [List.length_append]
    omega
end
mutual
theorem fvis_dl : ∀ (t : Fx) (d : Int) (s : List Int), fvis stI t d s = (s ++ dl t d, true)
  | .mk o e ks, d, s => by
    rw [fvis_eq]
    show (if true = true then fvisL stI ks (d + 1) (s ++ [d]) else (s ++ [d], false)) = _
    rw [if_pos rfl, fvisL_dl ks (d + 1) (s ++ [d])]
    show (s ++ [d] ++ dlL ks (d + 1), true) = (s ++ (d :: dlL ks (d + 1)), true)
    simp
theorem fvisL_dl : ∀ (l : List Fx) (d : Int) (s : List Int), fvisL stI l d s = (s ++ dlL l d, true)
  | [], d, s => by show (s, true) = (s ++ [], true); simp
  | t :: r, d, s => by
    show (if (fvis stI t d s).2 then fvisL stI r d (fvis stI t d s).1 else ((fvis stI t d s).1, false)) = _
    rw [fvis_dl t d s]
    show fvisL stI r d (s ++ dl t d) = _
    rw [fvisL_dl r d (s ++ dl t d)]
    show (s ++ dl t d ++ dlL r d, true) = (s ++ (dl t d ++ dlL r d), true)
    simp
end
def dpsF (t : Fx) : List Int := if chkF t ≠ 0 then [] else dl t 1
def ColI (w : World) (l : List Int) (e : Ending) (w' : World) : Prop := ∃ A c, e = .returned (.slice A l.length c) ∧ w'.ownsRow w.heap.size 3 1 (.slice A l.length c) l.length (l.map (Value.int .i64)) ∧ Below w.heap.size w w'
set_option maxRecDepth 100000 in
set_option maxHeartbeats 8000000 in
theorem pr_collectI (t : Fx) (E A : Option Addr) (dd c : Nat) (w : World) (hs : t.sz ≤ 100000000) (hR : Fm w.heap.size w t E A) :
    Calls Try.prog 67 #[fV t E dd A c, .func (.func 68) #[] #[]] w (ColI w (dpsF t)) := by
  obtain ⟨W2, hW2⟩ : ∃ W2, (w.alloc (.cells (fC t E dd A c) 27)).alloc (.cells #[.func (.func 68) #[] #[]] 78) = W2 := ⟨_, rfl⟩
  have hz1 : (w.alloc (.cells (fC t E dd A c) 27)).heap.size = w.heap.size + 1 := by simp
  have hb2 : Below w.heap.size w W2 := by rw [← hW2]; exact bt (bal _ _) (bal _ _)
  have hat2 : FAt W2 w.heap.size 0 t E dd A c := by rw [← hW2]; exact (fal t E A dd c w).below (bal _ _) (by simp)
  have hq2 : Blk W2 (w.heap.size + 1) 78 #[.func (.func 68) #[] #[]] := by rw [← hW2, ← hz1]; exact Blk.new _ _ _
  have HCH := Lib.hid (pr_fCheck t E A dd c W2 hs (hR.step hb2))
  have HW2 := Lib.hid hW2
  by_cases hc : chkF t = 0
  · rw [show dpsF t = dl t 1 from if_neg (by simpa using hc)]
    rw [hc] at HCH
    obtain ⟨D, hD⟩ : ∃ D, dl t 1 = D := ⟨_, rfl⟩
    rw [hD]
    have HV : Hid (∀ w1 : World, Below W2.heap.size W2 w1 → Calls Try.prog 30 #[fV t E dd A c, .int .i64 1, .func (.func 95) #[] #[.pointer (some ⟨w1.heap.size, 0, none⟩), .pointer (some ⟨w.heap.size + 1, 0, none⟩)]] (w1.alloc (.cells #[.slice none 0 0] 58)) (VisP (InI w1.heap.size (w.heap.size + 1)) (fun b => w.heap.size ≤ b) (w1.alloc (.cells #[.slice none 0 0] 58)) (D, true))) := Lib.hid (fun w1 hb1 => by
      have hq1 : Blk w1 (w.heap.size + 1) 78 #[.func (.func 68) #[] #[]] := hq2.below hb1 hq2.lt
      have hlt := hq1.lt
      have hbw : Below w.heap.size w (w1.alloc (.cells #[.slice none 0 0] 58)) := hb2.trans ((hb1.trans ((bal w1 (.cells #[.slice none 0 0] 58)).mono hb1.size)).mono hb2.size)
      have h := pr_fvisit 95 _ (InI w1.heap.size (w.heap.size + 1)) stI w.heap.size (.pointer (some ⟨w1.heap.size, 0, none⟩)) (.pointer (some ⟨w.heap.size + 1, 0, none⟩)) List.length 100000000 (fun s t d => by show (s ++ [d]).length ≤ _; have := sz_pos t.e; rw [List.length_append]; simp; omega) (.inr (.inr (.inr (.inr ⟨rfl, rfl⟩)))) (InL.kept _ _) (fun S s w t E eC A c d hI hS hF hB hR _ _ _ hm => pr_colI _ _ S s w t E A eC c d hI hF (by have := sz_pos t.e; omega)) t.sz t (Nat.le_refl _) hs E dd A c 1 (fun b => w.heap.size ≤ b) [] (w1.alloc (.cells #[.slice none 0 0] 58))
        ⟨by omega, by omega, by omega, .slice none 0 0, Blk.new _ _ _, hq1.alloc _, ⟨rfl, .inl ⟨rfl, rfl⟩⟩, fun k hk => by cases hk⟩ (fun b hb h => by omega) (fun b hb => by have := hbw.size; omega) hbw.size (hR.under hbw) (by omega) (by omega) (by simpa using hs)
      rw [fvis_dl, List.nil_append, hD] at h
      exact h)
    have HX : Hid (∀ w1, Below W2.heap.size W2 w1 → FAt (w1.alloc (.cells #[.slice none 0 0] 58)) w.heap.size 0 t E dd A c ∧ Below w.heap.size w (w1.alloc (.cells #[.slice none 0 0] 58))) := Lib.hid (fun w1 hb1 => ⟨(hat2.below hb1 (by have := hq2.lt; omega)).below (bal _ _) (by have := hq2.lt; have := hb1.size; omega), hb2.trans ((hb1.trans ((bal w1 (.cells #[.slice none 0 0] 58)).mono hb1.size)).mono hb2.size)⟩)
    obtain ⟨p0, p1, p2, p3, p4, p5⟩ := hat2
    clear hb2 hq2 hR hc hD hW2 hz1
    go_enter Try.func67, Try.ntmps67
    go_upto_region 1 with (fail)
    rw [HW2.out]
    go_wp2_with (first
      | (go_at_call 30; have _ := HB1; (with_reducible refine (HV.out _ HB1.out).mono ?_); rintro e w3 ⟨rfl, hI3, hf3⟩; obtain ⟨_, _, hne, v, k1, k2, k3, k4⟩ := hI3; obtain ⟨A3, c3, rfl⟩ := owns_slice k3; have q0 : w3.cell? ⟨w1.heap.size, 0, none⟩ = some (.slice A3 (List.length D) c3) := k1.cell 0; have K3 := Lib.hid k3; have K4 := Lib.hid k4; have HF3 := Lib.hid ((HX.out _ HB1.out).2.trans (hf3.below2 (fun k hk h => by omega) (HX.out _ HB1.out).2.size)); clear k1 k2 k3 k4 hf3)
      | (go_at_call 9; (with_reducible refine HCH.out.mono ?_); rintro e w1 ⟨rfl, hb1⟩; have HB1 := Lib.hid hb1; obtain ⟨r0, r1, r2, r3, r4, r5⟩ := (HX.out _ hb1).1; clear hb1))
    go_ret
    exact ⟨A3, c3, rfl, own_more K3.out (fun k hk => (K4.out k hk).1), HF3.out⟩
  · rw [show dpsF t = [] from if_pos hc]
    obtain ⟨z, hz⟩ : ∃ z, chkF t = z := ⟨_, rfl⟩
    rw [hz] at HCH hc
    have hz2 : (z != 0) = true := by simp [hc]
    obtain ⟨p0, p1, p2, p3, p4, p5⟩ := hat2
    have HB2 := Lib.hid hb2
    clear hb2 hq2 hR hc hz hW2 hz1
    go_enter Try.func67, Try.ntmps67
    go_upto_region 1 with (fail)
    rw [HW2.out]
    go_wp2_with (go_at_call 9; (with_reducible refine HCH.out.mono ?_); rintro e w1 ⟨rfl, hb1⟩; have HB1 := Lib.hid (HB2.out.trans (hb1.mono HB2.out.size)); clear hb1)
    go_ret
    exact ⟨none, 0, rfl, ⟨rfl, .inl ⟨rfl, rfl⟩⟩, HB1.out⟩
set_option maxHeartbeats 4000000 in
theorem pr_depths (t : Fx) (E A : Option Addr) (dd c : Nat) (w : World) (hs : t.sz ≤ 100000000) (hR : Fm w.heap.size w t E A) :
    Calls Try.prog 40 #[fV t E dd A c] w (ColI w (dpsF t)) := by
  have HAL : Hid (∀ o, Below w.heap.size w (w.alloc o)) := Lib.hid (fun o => bal _ _)
  have HC : Hid (Calls Try.prog 67 #[fV t E dd A c, .func (.func 68) #[] #[]] (w.alloc (.cells (fC t E dd A c) 27)) (ColI (w.alloc (.cells (fC t E dd A c) 27)) (dpsF t))) := Lib.hid (pr_collectI t E A dd c _ hs (hR.step (bal _ _)))
  obtain ⟨p0, p1, p2, p3, p4, p5⟩ := fal t E A dd c w
  generalize dpsF t = D at *
  clear hR
  go_enter Try.func40, Try.ntmps40
  go_wp2_with (go_at_call 67; (with_reducible refine HC.out.mono ?_); rintro e w1 ⟨A1, c1, rfl, ho1, hb1⟩; have HO1 := Lib.hid ho1; have HB1 := Lib.hid hb1; clear hb1 ho1)
  go_ret
  exact ⟨A1, c1, rfl, own_more HO1.out (fun k hk => by have := (own_lt HO1.out hk).1; simp at this; omega), bt (HAL.out _) HB1.out⟩
set_option maxHeartbeats 4000000 in
theorem pr_fSize (t : Fx) (E A : Option Addr) (dd c : Nat) (w : World) (hs : t.sz ≤ 100000000) (hR : Fm w.heap.size w t E A) :
    Calls Try.prog 14 #[fV t E dd A c] w fun e w' => e = .returned (.int .i64 ((dpsF t).length : Int)) ∧ Below w.heap.size w w' := by
  have HAL : Hid (∀ o, Below w.heap.size w (w.alloc o)) := Lib.hid (fun o => bal _ _)
  have HC : Hid (Calls Try.prog 40 #[fV t E dd A c] (w.alloc (.cells (fC t E dd A c) 27)) (ColI (w.alloc (.cells (fC t E dd A c) 27)) (dpsF t))) := Lib.hid (pr_depths t E A dd c _ hs (hR.step (bal _ _)))
  obtain ⟨p0, p1, p2, p3, p4, p5⟩ := fal t E A dd c w
  generalize dpsF t = D at *
  generalize hn : D.length = n at *
  clear hR
  go_enter Try.func14, Try.ntmps14
  go_wp2_with (go_at_call 40; (with_reducible refine HC.out.mono ?_); rintro e w1 ⟨A1, c1, rfl, ho1, hb1⟩; have HO1 := Lib.hid ho1; have HB1 := Lib.hid hb1; clear hb1 ho1)
  go_ret
  exact ⟨by first | rfl | rw [hn], bt (HAL.out _) HB1.out⟩
end Go.Proofs.Ytnjkphopklbogaa
namespace Go.Proofs.Ytnjkphopklbogaa
open Go.RowKit

/-- The Kids of the tree lie at A, and theirs where they say, all in blocks of P. -/
inductive RepS (P : Nat → Prop) (w : World) : Option Addr → Ex → Prop where
  | mk (A : Option Addr) (t : Ex) (ka : Nat → Option Addr) (kc : Nat → Nat)
      (hrow : 0 < t.ks.length → ∃ b f, A = some ⟨b, f, none⟩ ∧ P b ∧ ∀ i, i < t.ks.length → w.cell? ⟨b, f + i * 4, none⟩ = some (.int .i64 (kd t.ks i).op) ∧ w.cell? ⟨b, f + i * 4 + 1, none⟩ = some (.int .i64 (kd t.ks i).vr) ∧ w.cell? ⟨b, f + i * 4 + 2, none⟩ = some (.string (kd t.ks i).nm) ∧ w.cell? ⟨b, f + i * 4 + 3, none⟩ = some (.slice (ka i) (kd t.ks i).ks.length (kc i)))
      (hkid : ∀ i, i < t.ks.length → RepS P w (ka i) (kd t.ks i)) : RepS P w A t
theorem Rep.toS {B : Nat} {w : World} {A : Option Addr} {t : Ex} (h : Rep B w A t) : RepS (· < B) w A t := by
  induction h with
  | mk A t ka kc hrow hkid ih => exact .mk A t ka kc hrow ih
theorem RepS.toR {P : Nat → Prop} {B : Nat} {w : World} {A : Option Addr} {t : Ex} (h : RepS P w A t) (hP : ∀ b, P b → b < B) : Rep B w A t := by
  induction h with
  | mk A t ka kc hrow hkid ih =>
    refine .mk A t ka kc (fun hp => ?_) ih
    obtain ⟨b, f, e, hb, hc⟩ := hrow hp
    exact ⟨b, f, e, hP b hb, hc⟩
theorem RepS.mono {P P' : Nat → Prop} {w : World} {A : Option Addr} {t : Ex} (h : RepS P w A t) (hP : ∀ b, P b → P' b) : RepS P' w A t := by
  induction h with
  | mk A t ka kc hrow hkid ih =>
    refine .mk A t ka kc (fun hp => ?_) ih
    obtain ⟨b, f, e, hb, hc⟩ := hrow hp
    exact ⟨b, f, e, hP b hb, hc⟩
theorem RepS.kept {P : Nat → Prop} {w w' : World} {A : Option Addr} {t : Ex} (h : RepS P w A t) (hw : ∀ b, P b → w'.heap[b]? = w.heap[b]?) : RepS P w' A t := by
  induction h with
  | mk A t ka kc hrow hkid ih =>
    refine .mk A t ka kc (fun hp => ?_) ih
    obtain ⟨b, f, e, hb, hc⟩ := hrow hp
    have hh : ∀ o, w'.cell? ⟨b, o, none⟩ = w.cell? ⟨b, o, none⟩ := fun o => World.cell?_of_block (a := ⟨b, o, none⟩) (hw b hb)
    exact ⟨b, f, e, hb, fun i hi => ⟨(hh _).trans (hc i hi).1, (hh _).trans (hc i hi).2.1, (hh _).trans (hc i hi).2.2.1, (hh _).trans (hc i hi).2.2.2⟩⟩
/-- The cells of the expressions ks, their Kids at ka. -/
def csOf (ks : List Ex) (ka : Nat → Option Addr) (kc : Nat → Nat) : List Value := (List.range ks.length).flatMap fun i => [.int .i64 (kd ks i).op, .int .i64 (kd ks i).vr, .string (kd ks i).nm, .slice (ka i) (kd ks i).ks.length (kc i)]
theorem flat3_len {α : Type} (f g h k : Nat → α) : ∀ l : List Nat, (l.flatMap fun i => [f i, g i, h i, k i]).length = l.length * 4
  | [] => rfl
  | a :: r => by
    rw [List.flatMap_cons, List.length_append, flat3_len f g h k r]
    simp only [List.length_cons, List.length_nil]
    omega
theorem flat3_at {α : Type} (f g h k : Nat → α) : ∀ (l : List Nat) (i j : Nat) (a : Nat), l[i]? = some a → j < 4 → (l.flatMap fun i => [f i, g i, h i, k i])[i * 4 + j]? = [f a, g a, h a, k a][j]?
  | x :: r, 0, j, a, hi, hj => by
    obtain rfl : x = a := by simpa using hi
    rw [List.flatMap_cons, Nat.zero_mul, Nat.zero_add, List.getElem?_append_left (by simpa using hj)]
  | x :: r, i + 1, j, a, hi, hj => by
    have hl : [f x, g x, h x, k x].length = 4 := rfl
    rw [List.flatMap_cons, List.getElem?_append_right (by rw [hl]; omega), hl, show (i + 1) * 4 + j - 4 = i * 4 + j by omega]
    exact flat3_at f g h k r i j a (by simpa using hi) hj
theorem csOf_len (ks : List Ex) (ka : Nat → Option Addr) (kc : Nat → Nat) : (csOf ks ka kc).length = ks.length * 4 := by
  unfold csOf
  rw [flat3_len, List.length_range]
theorem csOf_at {ks : List Ex} {ka : Nat → Option Addr} {kc : Nat → Nat} {i j : Nat} (hi : i < ks.length) (hj : j < 4) : (csOf ks ka kc)[i * 4 + j]? = [Value.int .i64 (kd ks i).op, .int .i64 (kd ks i).vr, .string (kd ks i).nm, .slice (ka i) (kd ks i).ks.length (kc i)][j]? := by
  unfold csOf
  exact flat3_at _ _ _ _ _ i j i (by simp [hi]) hj
theorem csOf_one (ks : List Ex) (ka : Nat → Option Addr) (kc : Nat → Nat) : ∀ u ∈ csOf ks ka kc, u.oneCell' = true := by
  intro u hu
  unfold csOf at hu
  rw [List.mem_flatMap] at hu
  obtain ⟨i, _, hi⟩ := hu
  simp only [List.mem_cons, List.not_mem_nil, or_false] at hi
  rcases hi with rfl | rfl | rfl | rfl <;> rfl
theorem info24 : (Try.prog.info? 24).map (fun i => (i.zero, i.size, i.bytes)) = some (some (.agg #[.int .i64 0, .int .i64 0, .string ⟨#[]⟩, .slice none 0 0]), 4, 56) := by kernel_rfl
end Go.Proofs.Ytnjkphopklbogaa
namespace Go.Proofs.Ytnjkphopklbogaa
open Go.RowKit


theorem add_block' (a : Addr) (n : Nat) : (a.add n).block = a.block := by unfold Addr.add; split <;> rfl
def CloneP (w : World) (n : Nat) (cs : List Value) (e : Ending) (w' : World) : Prop := ∃ A c, e = .returned (.slice A n c) ∧ Below w.heap.size w w' ∧
  (0 < n → ∃ g, A = some ⟨g, 0, none⟩ ∧ w.heap.size ≤ g ∧ g < w'.heap.size ∧ (∀ j, j < n * 4 → w'.cell? ⟨g, j, none⟩ = cs[j]?) ∧ ∀ j, w'.frozen? ⟨g, j, none⟩ = false)
set_option maxRecDepth 100000 in
set_option maxHeartbeats 2000000 in
theorem pr_Clone (A : Option Addr) (n c : Nat) (cs : List Value) (w : World) (hn : n ≤ 1000000000) (hl : cs.length = n * 4) (h1 : ∀ u ∈ cs, u.oneCell' = true) (hA : A = none → n = 0)
    (hc : ∀ ad, A = some ad → ∀ j u, cs[j]? = some u → w.cell? (ad.add j) = some u) (hb : ∀ ad, A = some ad → n = 0 ∨ ad.block < w.heap.size) :
    Calls Try.prog 96 #[.slice A n c] w (CloneP w n cs) := by
  obtain ⟨i0, hi0, hz0, hz1, hz2⟩ := info_parts info24
  have q24 : ∀ (w : World) (a : Option Addr) (n c n' c' : Nat), (binOp .eql 22 (.slice a n c) (.slice none n' c')).run Try.prog w = .ok (.bool a.isNone) w := fun w a n c n' c' => Lib.run_eql_slice_nil w _ _ a n c n' c' Try.underlying22
  rcases A with _ | ad
  · obtain rfl := hA rfl
    clear hc hb
    go_enter Try.func96, Try.ntmps96
    go_wp2
    go_ret
    exact ⟨none, 0, rfl, Below.refl _ _, fun h => absurd h (by decide)⟩
  · have HC := Lib.hid (hc ad rfl)
    have HB := Lib.hid (hb ad rfl)
    have HL := Lib.hid hl
    have H1 := Lib.hid h1
    clear hc hb hA hl h1
    go_enter Try.func96, Try.ntmps96
    go_wp2_with (at_builtin; refine wpList_append_own _ rfl _ _ 22 rfl w.heap.size 24 i0 _ 4 56 Try.underlying22 hi0 hz0 hz1 hz2 rfl (by decide) _ _ _ rfl (World.ownsRow_made w #[] 0 (Nat.le_refl _) (Nat.zero_le _) rfl) ad n c cs rfl HL.out ?qc2 H1.out ?qc4 ?qc5 ?qc6 ?_)
    case qc2 =>
      intro j u hj
      have h0 := HC.out j u hj
      have hlt : ad.block < w.heap.size := by
        rcases HB.out with h | h
        · have := HL.out
          rw [h] at this
          have e : cs = [] := List.eq_nil_of_length_eq_zero (by omega)
          rw [e] at hj
          cases hj
        · exact h
      have hb2 : Below w.heap.size w (w.alloc (.cells #[] 24)) := (Below.refl _ _).alloc (Nat.le_refl _) _
      exact (hb2.cell (p := ad.add j) (by rw [add_block']; exact hlt)).trans h0
    case qc4 => unfold maxLen; omega
    case qc5 => omega
    case qc6 => simp
    intro v' w1 hown hgrow _
    have hBw : Below w.heap.size w w1 := ((Below.refl _ w).alloc (Nat.le_refl _) _).grown hgrow (by simp) (by intro k hk; simp [Value.ownBlock] at hk; omega)
    have HBw := Lib.hid hBw
    have ho : ∃ A' c', v' = .slice A' n c' ∧ (0 < n → ∃ g, A' = some ⟨g, 0, none⟩ ∧ w.heap.size ≤ g ∧ g < w1.heap.size ∧ (∀ j, j < n * 4 → w1.cell? ⟨g, j, none⟩ = cs[j]?) ∧ ∀ j, w1.frozen? ⟨g, j, none⟩ = false) := by
      rcases hown with ⟨_, ⟨hv, h0⟩ | ⟨g, cap, cur, hv, hg, hh, hnc, hcm, hcs, htk⟩⟩
      · have hn0 : n = 0 := by omega
        subst hn0
        exact ⟨none, 0, hv, fun h => absurd h (by decide)⟩
      · have hk : Blk w1 g 24 cur := hh
        refine ⟨some ⟨g, 0, none⟩, cap, hv, fun _ => ⟨g, rfl, hg, hk.lt, fun j hj => ?_, fun j => hk.frozen j⟩⟩
        rw [hk.cell j]
        have htk2 : cur.toList.take (n * 4) = cs := htk
        rw [← htk2, List.getElem?_take, if_pos hj, Array.getElem?_toList]
    obtain ⟨A', c', rfl, ho2⟩ := ho
    have HO := Lib.hid ho2
    clear hown hgrow hBw ho2
    go_wp2
    go_ret
    exact ⟨A', c', rfl, HBw.out, HO.out⟩
end Go.Proofs.Ytnjkphopklbogaa
namespace Go.Proofs.Ytnjkphopklbogaa
open Go.RowKit

/-- The blocks that a tree may lie in: none of N, not b, not bl, and there. -/
def Pn (N : Nat → Prop) (b bl : Nat) (w : World) (x : Nat) : Prop := ¬ N x ∧ x ≠ b ∧ x ≠ bl ∧ x < w.heap.size
/-- Nothing has turned but block bl, the cell f of block b, and what is new. -/
structure Fd (b f bl : Nat) (w w' : World) : Prop where
  os : w'.os = w.os
  tape : w'.tape = w.tape
  output : w'.output = w.output
  size : w.heap.size ≤ w'.heap.size
  block : ∀ k, k < w.heap.size → k ≠ b → k ≠ bl → w'.heap[k]? = w.heap[k]?
  cell : ∀ i, i ≠ f → w'.cell? ⟨b, i, none⟩ = w.cell? ⟨b, i, none⟩
  some : ∀ i, (w.cell? ⟨b, i, none⟩).isSome = true → (w'.cell? ⟨b, i, none⟩).isSome = true
  frozen : ∀ i, w.frozen? ⟨b, i, none⟩ = false → w'.frozen? ⟨b, i, none⟩ = false
theorem Fd.refl (b f bl : Nat) (w : World) : Fd b f bl w w := ⟨rfl, rfl, rfl, Nat.le_refl _, fun _ _ _ _ => rfl, fun _ _ => rfl, fun _ h => h, fun _ h => h⟩
theorem Fd.trans {b f bl : Nat} {u v w : World} (h : Fd b f bl u v) (h2 : Fd b f bl v w) : Fd b f bl u w :=
  ⟨h2.os.trans h.os, h2.tape.trans h.tape, h2.output.trans h.output, Nat.le_trans h.size h2.size, fun k hk h3 h4 => (h2.block k (Nat.lt_of_lt_of_le hk h.size) h3 h4).trans (h.block k hk h3 h4), fun i hi => (h2.cell i hi).trans (h.cell i hi), fun i hi => h2.some i (h.some i hi), fun i hi => h2.frozen i (h.frozen i hi)⟩
theorem Fd.below {b f bl : Nat} {w w' : World} (h : Below w.heap.size w w') (hb : b < w.heap.size) : Fd b f bl w w' :=
  ⟨h.os, h.tape, h.output, h.size, fun k hk _ _ => h.block k hk, fun i _ => h.cell (p := ⟨b, i, none⟩) hb, fun i hi => by rw [h.cell (p := ⟨b, i, none⟩) hb]; exact hi, fun i hi => by rw [h.frozen (p := ⟨b, i, none⟩) hb]; exact hi⟩
theorem Fd.setL {b f bl : Nat} {u w : World} (h : Fd b f bl u w) (hne : bl ≠ b) (i : Nat) (v : Value) : Fd b f bl u (w.setCell ⟨bl, i, none⟩ v) := by
  have hbk : ∀ k, k ≠ bl → (w.setCell ⟨bl, i, none⟩ v).heap[k]? = w.heap[k]? := fun k hk => by
    have hn : ¬ bl = k := fun e => hk e.symm
    simp [World.setCell, Array.getElem?_modify, hn]
  have hb := hbk b (fun e => hne e.symm)
  refine h.trans ⟨rfl, rfl, rfl, by simp, fun k _ _ hk => hbk k hk, fun j _ => World.cell?_of_block (a := ⟨b, j, none⟩) hb, fun j hj => ?_, fun j hj => ?_⟩
  · rw [World.cell?_of_block (a := ⟨b, j, none⟩) hb]; exact hj
  · rw [World.frozen?_of_block (a := ⟨b, j, none⟩) hb]; exact hj
theorem sc_ne (w : World) {b f i : Nat} (v : Value) (h : i ≠ f) : (w.setCell ⟨b, f, none⟩ v).cell? ⟨b, i, none⟩ = w.cell? ⟨b, i, none⟩ := by
  simp only [World.cell?, World.setCell, Array.getElem?_modify, if_true]
  cases hh : w.heap[b]? with
  | none => simp
  | some o =>
    have hn : ¬ f = i := fun e => h e.symm
    cases o <;> simp [hn]
theorem sc_eq (w : World) {b f : Nat} (v : Value) (h : (w.cell? ⟨b, f, none⟩).isSome = true) : (w.setCell ⟨b, f, none⟩ v).cell? ⟨b, f, none⟩ = some v := by
  revert h
  simp only [World.cell?, World.setCell, Array.getElem?_modify, if_true]
  cases hh : w.heap[b]? with
  | none => simp
  | some o => cases o <;> simp <;> intro h <;> simp [h]
theorem sc_fr (w : World) {b f i : Nat} (v : Value) : (w.setCell ⟨b, f, none⟩ v).frozen? ⟨b, i, none⟩ = w.frozen? ⟨b, i, none⟩ := by
  simp only [World.frozen?, World.setCell, Array.getElem?_modify, if_true]
  cases hh : w.heap[b]? with
  | none => simp
  | some o => cases o <;> simp
theorem Fd.setC {b f bl : Nat} {u w : World} (h : Fd b f bl u w) (v : Value) (hs : (w.cell? ⟨b, f, none⟩).isSome = true) : Fd b f bl u (w.setCell ⟨b, f, none⟩ v) := by
  refine h.trans ⟨rfl, rfl, rfl, by simp, fun k _ hk _ => ?_, fun j hj => sc_ne w v hj, fun j hj => ?_, fun j hj => ?_⟩
  · have hn : ¬ b = k := fun e => hk e.symm
    simp [World.setCell, Array.getElem?_modify, hn]
  · by_cases e : j = f
    · subst e; rw [sc_eq w v hs]; rfl
    · rw [sc_ne w v e]; exact hj
  · rw [sc_fr]; exact hj
end Go.Proofs.Ytnjkphopklbogaa
namespace Go.Proofs.Ytnjkphopklbogaa
open Go.RowKit

theorem add3 (b f j : Nat) : (⟨b, f, none⟩ : Addr).add j = ⟨b, f + j, none⟩ := by unfold Addr.add; split <;> simp_all
theorem clone_tree {P : Nat → Prop} {w : World} {A : Option Addr} {t : Ex} (c : Nat) (h : RepS P w A t) (hP : ∀ x, P x → x < w.heap.size) (hl : t.ks.length ≤ 1000000000) :
    ∃ ka kc, (∀ i, i < t.ks.length → RepS P w (ka i) (kd t.ks i)) ∧ Calls Try.prog 96 #[.slice A t.ks.length c] w (CloneP w t.ks.length (csOf t.ks ka kc)) := by
  cases h with
  | mk _ _ ka kc hrow hkid =>
    refine ⟨ka, kc, hkid, pr_Clone A t.ks.length c (csOf t.ks ka kc) w hl (csOf_len _ _ _) (csOf_one _ _ _) (fun e => ?_) (fun ad e j u hu => ?_) (fun ad e => ?_)⟩
    · rcases Nat.eq_zero_or_pos t.ks.length with h0 | h0
      · exact h0
      · obtain ⟨b, f, e2, _⟩ := hrow h0
        rw [e] at e2; cases e2
    · have hj : j < (csOf t.ks ka kc).length := (List.getElem?_eq_some_iff.1 hu).1
      rw [csOf_len] at hj
      obtain ⟨b, f, e2, hb, hc⟩ := hrow (by omega)
      rw [e] at e2
      obtain rfl := Option.some.inj e2
      have hi : j / 4 < t.ks.length := by omega
      have hr : j % 4 < 4 := by omega
      have hd : j = j / 4 * 4 + j % 4 := by omega
      have ha : (⟨b, f, none⟩ : Addr).add j = ⟨b, f + j, none⟩ := add3 b f j
      rw [hd, csOf_at hi hr] at hu
      rw [ha]
      obtain ⟨c0, c1, c2, c3⟩ := hc (j / 4) hi
      rcases (show j % 4 = 0 ∨ j % 4 = 1 ∨ j % 4 = 2 ∨ j % 4 = 3 by omega) with h0 | h0 | h0 | h0
      · rw [h0] at hu
        rw [show f + j = f + j / 4 * 4 by omega, c0]
        exact hu
      · rw [h0] at hu
        rw [show f + j = f + j / 4 * 4 + 1 by omega, c1]
        exact hu
      · rw [h0] at hu
        rw [show f + j = f + j / 4 * 4 + 2 by omega, c2]
        exact hu
      · rw [h0] at hu
        rw [show f + j = f + j / 4 * 4 + 3 by omega, c3]
        exact hu
    · rcases Nat.eq_zero_or_pos t.ks.length with h0 | h0
      · exact .inl h0
      · obtain ⟨b, f, e2, hb, _⟩ := hrow h0
        rw [e] at e2
        obtain rfl := Option.some.inj e2
        exact .inr (hP b hb)
theorem RepS.leaf {P : Nat → Prop} {w : World} {A : Option Addr} {t : Ex} (h : t.ks.length = 0) : RepS P w A t :=
  .mk A t (fun _ => none) (fun _ => 0) (fun hp => by omega) (fun i hi => by omega)
end Go.Proofs.Ytnjkphopklbogaa
namespace Go.Proofs.Ytnjkphopklbogaa
open Go.RowKit
variable {Pz : Nat → Prop}

theorem size24 : (Try.prog.info? 24).map (·.size) = some 4 := by kernel_rfl
theorem res_ex {fn : Func} {p : Tmp} (h : fn.results = #[.cell p 24]) (tmps : Array Value) (w : World) (g : Nat) (a b c d : Value) (hp : tmps.getD p undef = .pointer (some ⟨g, 0, none⟩)) (hg : Blk w g 24 #[a, b, c, d]) :
    (results fn tmps).run Try.prog w = .ok (.agg #[a, b, c, d]) w := by
  exact results_cell_row (P := Try.prog) h tmps w g 24 #[a, b, c, d] (0, 0) _ hp hg Try.underlying24 rfl size24
theorem set_blk (w : World) {g x : Nat} (i : Nat) (v : Value) (h : x ≠ g) : (w.setCell ⟨g, i, none⟩ v).heap[x]? = w.heap[x]? := by
  have hn : ¬ g = x := fun e => h e.symm
  simp [World.setCell, Array.getElem?_modify, hn]
theorem set4_blk (w : World) {g x i0 i1 i2 i3 : Nat} (a b c d : Value) (h : x ≠ g) : ((((w.setCell ⟨g, i0, none⟩ a).setCell ⟨g, i1, none⟩ b).setCell ⟨g, i2, none⟩ c).setCell ⟨g, i3, none⟩ d).heap[x]? = w.heap[x]? :=
  (set_blk _ _ _ h).trans ((set_blk _ _ _ h).trans ((set_blk _ _ _ h).trans (set_blk _ _ _ h)))
theorem set4_size (w : World) (g i0 i1 i2 i3 : Nat) (a b c d : Value) : ((((w.setCell ⟨g, i0, none⟩ a).setCell ⟨g, i1, none⟩ b).setCell ⟨g, i2, none⟩ c).setCell ⟨g, i3, none⟩ d).heap.size = w.heap.size := by simp
abbrev S4 (w : World) (g f : Nat) (a b c d : Value) : World := (((w.setCell ⟨g, f, none⟩ a).setCell ⟨g, f + 1, none⟩ b).setCell ⟨g, f + 2, none⟩ c).setCell ⟨g, f + 3, none⟩ d
theorem s4_ne (w : World) {g f o : Nat} (a b c d : Value) (h : o < f ∨ f + 4 ≤ o) : (S4 w g f a b c d).cell? ⟨g, o, none⟩ = w.cell? ⟨g, o, none⟩ := by
  rw [sc_ne _ _ (by omega), sc_ne _ _ (by omega), sc_ne _ _ (by omega), sc_ne _ _ (by omega)]
theorem s4_fr (w : World) {g f o : Nat} (a b c d : Value) : (S4 w g f a b c d).frozen? ⟨g, o, none⟩ = w.frozen? ⟨g, o, none⟩ := by
  rw [sc_fr, sc_fr, sc_fr, sc_fr]
theorem s4_eq (w : World) {g f : Nat} (a b c d : Value) (h0 : (w.cell? ⟨g, f, none⟩).isSome = true) (h1 : (w.cell? ⟨g, f + 1, none⟩).isSome = true) (h2 : (w.cell? ⟨g, f + 2, none⟩).isSome = true) (h3 : (w.cell? ⟨g, f + 3, none⟩).isSome = true) :
    (S4 w g f a b c d).cell? ⟨g, f, none⟩ = some a ∧ (S4 w g f a b c d).cell? ⟨g, f + 1, none⟩ = some b ∧ (S4 w g f a b c d).cell? ⟨g, f + 2, none⟩ = some c ∧ (S4 w g f a b c d).cell? ⟨g, f + 3, none⟩ = some d := by
  refine ⟨?_, ?_, ?_, ?_⟩
  · rw [sc_ne _ _ (by omega), sc_ne _ _ (by omega), sc_ne _ _ (by omega), sc_eq _ _ h0]
  · rw [sc_ne _ _ (by omega), sc_ne _ _ (by omega), sc_eq _ _ (by rw [sc_ne _ _ (by omega)]; exact h1)]
  · rw [sc_ne _ _ (by omega), sc_eq _ _ (by rw [sc_ne _ _ (by omega), sc_ne _ _ (by omega)]; exact h2)]
  · rw [sc_eq _ _ (by rw [sc_ne _ _ (by omega), sc_ne _ _ (by omega), sc_ne _ _ (by omega)]; exact h3)]
/-- Only block bl turns. -/
abbrev Lq (bl : Nat) : World → World → Prop := Frm (fun b => b = bl)
/-- The old blocks: those of Pz below bl. -/
abbrev Lb (Pz : Nat → Prop) (bl x : Nat) : Prop := x < bl ∧ Pz x
theorem RepS.lb {bl : Nat} {w w' : World} {A : Option Addr} {t : Ex} (h : RepS (Lb Pz bl) w A t) (hb : Below bl w w') : RepS (Lb Pz bl) w' A t := h.kept (fun x hx => hb.block x hx.1)
/-- The blocks of an answer: below bl, or made since. -/
def Ot (bl G : Nat) (w : World) (x : Nat) : Prop := x < bl ∨ (G ≤ x ∧ x < w.heap.size)
/-- The blocks of an answer: old ones, or made since. -/
def Od (Pz : Nat → Prop) (bl G : Nat) (w : World) (x : Nat) : Prop := (x < bl ∧ Pz x) ∨ (G ≤ x ∧ x < w.heap.size)
theorem od_keep {bl G : Nat} {w w' : World} {A : Option Addr} {t : Ex} (h : RepS (Od Pz bl G w) w A t) (hf : Lq bl w w') (hb : bl < w.heap.size) (hG : bl < G) : RepS (Od Pz bl G w') w' A t :=
  (h.kept (fun x hx => hf.block x (by rcases hx with h | h <;> omega) (by rcases hx with h | h <;> omega))).mono (fun x hx => by
    have := hf.size
    rcases hx with h | h
    · exact .inl h
    · exact .inr ⟨h.1, by omega⟩)
/-- What detachedTerm answers. -/
def DetT (Pz : Nat → Prop) (bl : Nat) (t : Ex) (w : World) (e : Ending) (w' : World) : Prop :=
  ∃ A' c' k', e = .returned (exV t A' c') ∧ Blk w' bl 3 #[.int .i64 k'] ∧ RepS (Od Pz bl w.heap.size w') w' A' t ∧ Lq bl w w'
/-- The row of the Kids in block g: those from i on are the old ones. -/
def TIn (Pz : Nat → Prop) (bl : Nat) (ks : List Ex) (g i : Nat) (w : World) : Prop := ∃ (ka : Nat → Option Addr) (kc : Nat → Nat), ∀ j, j < ks.length →
  (w.cell? ⟨g, j * 4, none⟩ = some (.int .i64 (kd ks j).op) ∧ w.cell? ⟨g, j * 4 + 1, none⟩ = some (.int .i64 (kd ks j).vr) ∧ w.cell? ⟨g, j * 4 + 2, none⟩ = some (.string (kd ks j).nm) ∧ w.cell? ⟨g, j * 4 + 3, none⟩ = some (.slice (ka j) (kd ks j).ks.length (kc j))) ∧
  (∀ r, w.frozen? ⟨g, j * 4 + r, none⟩ = false) ∧ RepS (Od Pz bl (g + 1) w) w (ka j) (kd ks j) ∧ (i ≤ j → RepS (Lb Pz bl) w (ka j) (kd ks j))
theorem TIn.keep {bl : Nat} {ks : List Ex} {g i : Nat} {w w' : World} (h : TIn Pz bl ks g i w) (hf : Lq bl w w') (hg : g < w.heap.size) (hb : bl < g) : TIn Pz bl ks g i w' := by
  obtain ⟨ka, kc, h⟩ := h
  have hbk := hf.block g hg (by omega)
  refine ⟨ka, kc, fun j hj => ?_⟩
  obtain ⟨⟨c0, c1, c2, c3⟩, fr, hr, ho⟩ := h j hj
  exact ⟨⟨(World.cell?_of_block (a := ⟨g, _, none⟩) hbk).trans c0, (World.cell?_of_block (a := ⟨g, _, none⟩) hbk).trans c1, (World.cell?_of_block (a := ⟨g, _, none⟩) hbk).trans c2, (World.cell?_of_block (a := ⟨g, _, none⟩) hbk).trans c3⟩, fun r => (World.frozen?_of_block (a := ⟨g, _, none⟩) hbk).trans (fr r), od_keep hr hf (by omega) (by omega), fun hi => (ho hi).kept (fun x hx => hf.block x (by omega) (by omega))⟩
theorem TIn.step {bl : Nat} {ks : List Ex} {g i Gc : Nat} {w : World} (h : TIn Pz bl ks g i w) (hi : i < ks.length) (hb : bl < g) (_hg : g < w.heap.size) (hG : g + 1 ≤ Gc) {A' : Option Addr} {c' : Nat} (hR : RepS (Od Pz bl Gc w) w A' (kd ks i)) :
    TIn Pz bl ks g (i + 1) (S4 w g (i * 4) (.int .i64 (kd ks i).op) (.int .i64 (kd ks i).vr) (.string (kd ks i).nm) (.slice A' (kd ks i).ks.length c')) := by
  obtain ⟨ka, kc, h⟩ := h
  have keep : ∀ (A : Option Addr) (u : Ex), RepS (Od Pz bl (g + 1) w) w A u → RepS (Od Pz bl (g + 1) (S4 w g (i * 4) (.int .i64 (kd ks i).op) (.int .i64 (kd ks i).vr) (.string (kd ks i).nm) (.slice A' (kd ks i).ks.length c'))) (S4 w g (i * 4) (.int .i64 (kd ks i).op) (.int .i64 (kd ks i).vr) (.string (kd ks i).nm) (.slice A' (kd ks i).ks.length c')) A u := fun A u hr =>
    (hr.kept (fun y hy => set4_blk w _ _ _ _ (by rcases hy with h | h <;> omega))).mono (fun y hy => by
      rcases hy with h | h
      · exact .inl h
      · exact .inr ⟨h.1, by rw [set4_size]; exact h.2⟩)
  have keep2 : ∀ (A : Option Addr) (u : Ex), RepS (Lb Pz bl) w A u → RepS (Lb Pz bl) (S4 w g (i * 4) (.int .i64 (kd ks i).op) (.int .i64 (kd ks i).vr) (.string (kd ks i).nm) (.slice A' (kd ks i).ks.length c')) A u := fun A u hr =>
    hr.kept (fun y hy => set4_blk w _ _ _ _ (by omega))
  have hR2 : RepS (Od Pz bl (g + 1) w) w A' (kd ks i) := hR.mono (fun y hy => by
    rcases hy with h | h
    · exact .inl h
    · exact .inr ⟨by omega, h.2⟩)
  refine ⟨fun j => if j = i then A' else ka j, fun j => if j = i then c' else kc j, fun j hj => ?_⟩
  obtain ⟨⟨c0, c1, c2, c3⟩, fr, hr, ho⟩ := h j hj
  by_cases e : j = i
  · subst e
    simp only [if_pos]
    exact ⟨s4_eq w _ _ _ _ (by rw [c0]; rfl) (by rw [c1]; rfl) (by rw [c2]; rfl) (by rw [c3]; rfl), fun r => (s4_fr w _ _ _ _).trans (fr r), keep _ _ hR2, fun h => by omega⟩
  · simp only [if_neg e]
    exact ⟨⟨(s4_ne w _ _ _ _ (by omega)).trans c0, (s4_ne w _ _ _ _ (by omega)).trans c1, (s4_ne w _ _ _ _ (by omega)).trans c2, (s4_ne w _ _ _ _ (by omega)).trans c3⟩, fun r => (s4_fr w _ _ _ _).trans (fr r), keep _ _ hr, fun h => keep2 _ _ (ho (by omega))⟩
theorem TIn.done {bl : Nat} {t : Ex} {g i G : Nat} {w : World} (h : TIn Pz bl t.ks g i w) (_hb : bl < g) (hg : g < w.heap.size) (hG : G ≤ g) : RepS (Od Pz bl G w) w (some ⟨g, 0, none⟩) t := by
  obtain ⟨ka, kc, h⟩ := h
  refine .mk _ t ka kc (fun _ => ⟨g, 0, rfl, .inr ⟨hG, hg⟩, fun j hj => ?_⟩) (fun j hj => (h j hj).2.2.1.mono (fun y hy => ?_))
  · rw [Nat.zero_add]
    exact (h j hj).1
  · rcases hy with h | h
    · exact .inl h
    · exact .inr ⟨by omega, h.2⟩
/-- What lies while detachedTerm walks over the Kids. -/
structure TdS (Pz : Nat → Prop) (bl : Nat) (t : Ex) (A2 : Option Addr) (c2 n : Nat) (w : World) (i : Nat) (wr : World) (kk : Int) : Prop where
  lf : Lq bl w wr
  hz : w.heap.size + 1 + 1 ≤ wr.heap.size
  hbl : bl < w.heap.size
  bb : Blk wr bl 3 #[.int .i64 kk]
  b0 : Blk wr w.heap.size 24 #[.int .i64 t.op, .int .i64 t.vr, .string t.nm, .slice A2 n c2]
  b1 : Blk wr (w.heap.size + 1) 24 #[.int .i64 0, .int .i64 0, .string ⟨#[]⟩, .slice none 0 0]
  hn : n = t.ks.length
  row : 0 < n → ∃ g, A2 = some ⟨g, 0, none⟩ ∧ w.heap.size + 1 < g ∧ g < wr.heap.size ∧ TIn Pz bl t.ks g i wr
section
variable {bl : Nat} {t : Ex} {A2 : Option Addr} {c2 n : Nat} {w wr : World} {i : Nat} {kk : Int}
theorem TdS.frm (h : TdS Pz bl t A2 c2 n w i wr kk) {w' : World} {k' : Int} (hl : Lq bl wr w') (hb : Blk w' bl 3 #[.int .i64 k']) : TdS Pz bl t A2 c2 n w i w' k' := by
  have hz := h.hz
  have hbl := h.hbl
  refine ⟨h.lf.trans hl, Nat.le_trans hz hl.size, hbl, hb, h.b0.frm hl (by omega), h.b1.frm hl (by omega), h.hn, fun hp => ?_⟩
  obtain ⟨g, e, h1, h2, h3⟩ := h.row hp
  exact ⟨g, e, h1, Nat.lt_of_lt_of_le h2 hl.size, h3.keep hl h2 (by omega)⟩
theorem TdS.below (h : TdS Pz bl t A2 c2 n w i wr kk) {w' : World} (hb : Below wr.heap.size wr w') : TdS Pz bl t A2 c2 n w i w' kk := h.frm (Frm.of_below hb) (h.bb.below hb h.bb.lt)
theorem TdS.at (h : TdS Pz bl t A2 c2 n w i wr kk) (hi : i < n) : ∃ g ka kc, A2 = some ⟨g, 0, none⟩ ∧ w.heap.size + 1 < g ∧ g < wr.heap.size ∧ wr.cell? ⟨g, i * 4, none⟩ = some (.int .i64 (kd t.ks i).op) ∧ wr.cell? ⟨g, i * 4 + 1, none⟩ = some (.int .i64 (kd t.ks i).vr) ∧ wr.cell? ⟨g, i * 4 + 2, none⟩ = some (.string (kd t.ks i).nm) ∧ wr.cell? ⟨g, i * 4 + 3, none⟩ = some (.slice ka (kd t.ks i).ks.length kc) ∧ (∀ r, wr.frozen? ⟨g, i * 4 + r, none⟩ = false) ∧ RepS (Lb Pz bl) wr ka (kd t.ks i) := by
  obtain ⟨g, e, h1, h2, ka, kc, h3⟩ := h.row (by omega)
  obtain ⟨⟨c0, c1, c2, c3⟩, fr, _, ho⟩ := h3 i (by have := h.hn; omega)
  exact ⟨g, ka i, kc i, e, h1, h2, c0, c1, c2, c3, fr, ho (Nat.le_refl _)⟩
theorem TdS.step (h : TdS Pz bl t A2 c2 n w i wr kk) (hi : i < n) {w4 : World} {A' : Option Addr} {c' : Nat} {k' : Int} (wx : World) (hx : Lq bl wr wx) (hl : Lq bl wx w4) (hb : Blk w4 bl 3 #[.int .i64 k']) (hR : RepS (Od Pz bl wx.heap.size w4) w4 A' (kd t.ks i)) (g : Nat) (hA : A2 = some ⟨g, 0, none⟩) :
    TdS Pz bl t A2 c2 n w (i + 1) (S4 w4 g (i * 4) (.int .i64 (kd t.ks i).op) (.int .i64 (kd t.ks i).vr) (.string (kd t.ks i).nm) (.slice A' (kd t.ks i).ks.length c')) k' := by
  have h' := h.frm (hx.trans hl) hb
  have hbl := h'.hbl
  have hz := h'.hz
  obtain ⟨g', e, g1, g2, g3⟩ := h'.row (by omega)
  rw [hA] at e
  have e2 : g = g' := by simpa using e
  subst e2
  have hgx : g < wx.heap.size := by
    obtain ⟨g', e, _, g2, _⟩ := h.row (by omega)
    rw [hA] at e
    have e2 : g = g' := by simpa using e
    subst e2
    exact Nat.lt_of_lt_of_le g2 hx.size
  have hi2 : i < t.ks.length := by have := h.hn; omega
  refine ⟨⟨h'.lf.os, h'.lf.tape, h'.lf.output, by rw [set4_size]; exact h'.lf.size, fun k hk hn => (set4_blk _ _ _ _ _ (by omega)).trans (h'.lf.block k hk hn)⟩, by rw [set4_size]; exact hz, hbl, (set4_blk _ _ _ _ _ (by omega)).trans h'.bb, (set4_blk _ _ _ _ _ (by omega)).trans h'.b0, (set4_blk _ _ _ _ _ (by omega)).trans h'.b1, h'.hn, fun _ => ⟨g, hA, g1, by rw [set4_size]; exact g2, g3.step hi2 (by omega) g2 (by omega) hR⟩⟩
end
end Go.Proofs.Ytnjkphopklbogaa
namespace Go.Proofs.Ytnjkphopklbogaa
open Go.RowKit
variable {Pz : Nat → Prop}

theorem lq_s4 {bl g : Nat} {w W : World} (h : Lq bl w W) (hg : w.heap.size ≤ g) (i0 i1 i2 i3 : Nat) (a b c d : Value) : Lq bl w ((((W.setCell ⟨g, i0, none⟩ a).setCell ⟨g, i1, none⟩ b).setCell ⟨g, i2, none⟩ c).setCell ⟨g, i3, none⟩ d) :=
  ⟨h.os, h.tape, h.output, by rw [set4_size]; exact h.size, fun k hk hn => (set4_blk _ _ _ _ _ (by omega)).trans (h.block k hk hn)⟩
theorem csOf_get4 {ks : List Ex} {ka : Nat → Option Addr} {kc : Nat → Nat} {i : Nat} (hi : i < ks.length) : (csOf ks ka kc)[i * 4]? = some (.int .i64 (kd ks i).op) ∧ (csOf ks ka kc)[i * 4 + 1]? = some (.int .i64 (kd ks i).vr) ∧ (csOf ks ka kc)[i * 4 + 2]? = some (.string (kd ks i).nm) ∧ (csOf ks ka kc)[i * 4 + 3]? = some (.slice (ka i) (kd ks i).ks.length (kc i)) :=
  ⟨csOf_at (j := 0) hi (by omega), csOf_at (j := 1) hi (by omega), csOf_at (j := 2) hi (by omega), csOf_at (j := 3) hi (by omega)⟩
theorem TdS.start {bl : Nat} {t : Ex} {A A2 : Option Addr} {c c2 n : Nat} {w W1 w2 w3 : World} {k1 : Int} {ka : Nat → Option Addr} {kc : Nat → Nat} (hF : Lq bl w W1) (h0 : Blk W1 w.heap.size 24 #[.int .i64 t.op, .int .i64 t.vr, .string t.nm, .slice A n c]) (h1 : Blk W1 (w.heap.size + 1) 24 #[.int .i64 0, .int .i64 0, .string ⟨#[]⟩, .slice none 0 0]) (hb : Blk W1 bl 3 #[.int .i64 k1]) (hbl : bl < w.heap.size) (hz : W1.heap.size = w.heap.size + 1 + 1) (hn : n = t.ks.length)
    (hk : ∀ i, i < t.ks.length → RepS (Lb Pz bl) W1 (ka i) (kd t.ks i)) (hb2 : Below W1.heap.size W1 w2)
    (hg : 0 < n → ∃ g, A2 = some ⟨g, 0, none⟩ ∧ W1.heap.size ≤ g ∧ g < w2.heap.size ∧ (∀ j, j < n * 4 → w2.cell? ⟨g, j, none⟩ = (csOf t.ks ka kc)[j]?) ∧ ∀ j, w2.frozen? ⟨g, j, none⟩ = false)
    (hw : w2.setCell ⟨w.heap.size, 3, none⟩ (.slice A2 n c2) = w3) : TdS Pz bl t A2 c2 n w 0 w3 k1 := by
  have hs2 := hb2.size
  rw [← hw]
  refine ⟨⟨hF.os.symm ▸ hb2.os, ?_, ?_, ?_, fun k hk hne => ?_⟩, by simp; omega, hbl, (set_blk _ _ _ (by omega)).trans (hb.below hb2 hb.lt), (h0.below hb2 h0.lt).set_ 3 _, (set_blk _ _ _ (by omega)).trans (h1.below hb2 h1.lt), hn, fun hp => ?_⟩
  · exact hb2.tape.trans hF.tape
  · exact hb2.output.trans hF.output
  · have := hF.size; simp; omega
  · exact (set_blk _ _ _ (by omega)).trans ((hb2.block k (by omega)).trans (hF.block k hk hne))
  · obtain ⟨g, e1, e2, e3, e4, e5⟩ := hg hp
    have hgn : g ≠ w.heap.size := by omega
    have hblk : ∀ x, x ≠ w.heap.size → (w2.setCell ⟨w.heap.size, 3, none⟩ (.slice A2 n c2)).heap[x]? = w2.heap[x]? := fun x hx => set_blk _ _ _ hx
    refine ⟨g, e1, by omega, by simpa using e3, ka, kc, fun j hj => ?_⟩
    have hc : ∀ r, (w2.setCell ⟨w.heap.size, 3, none⟩ (.slice A2 n c2)).cell? ⟨g, r, none⟩ = w2.cell? ⟨g, r, none⟩ := fun r => World.cell?_of_block (a := ⟨g, r, none⟩) (hblk g hgn)
    have hf : ∀ r, (w2.setCell ⟨w.heap.size, 3, none⟩ (.slice A2 n c2)).frozen? ⟨g, r, none⟩ = w2.frozen? ⟨g, r, none⟩ := fun r => World.frozen?_of_block (a := ⟨g, r, none⟩) (hblk g hgn)
    obtain ⟨q0, q1, q2, q3⟩ := csOf_get4 (ka := ka) (kc := kc) hj
    have hr : RepS (Lb Pz bl) (w2.setCell ⟨w.heap.size, 3, none⟩ (.slice A2 n c2)) (ka j) (kd t.ks j) := (hk j hj).kept (fun x hx => (hblk x (by omega)).trans (hb2.block x (by omega)))
    exact ⟨⟨(hc _).trans ((e4 _ (by omega)).trans q0), (hc _).trans ((e4 _ (by omega)).trans q1), (hc _).trans ((e4 _ (by omega)).trans q2), (hc _).trans ((e4 _ (by omega)).trans q3)⟩, fun r => (hf _).trans (e5 _), hr.mono (fun y hy => .inl hy), fun _ => hr⟩
set_option maxRecDepth 100000 in
set_option maxHeartbeats 8000000 in
theorem pr_detT : ∀ (N : Nat) t, t.sz ≤ N → N ≤ 100000000 → ∀ (bl : Nat) (A : Option Addr) (c : Nat) (k : Int) (w : World), Blk w bl 3 #[.int .i64 k] → RepS (Lb Pz bl) w A t →
    Calls Try.prog 71 #[exV t A c, .pointer (some ⟨bl, 0, none⟩)] w (DetT Pz bl t w) := by
  intro N
  induction N with
  | zero => intro t h; have := sz_eq t; omega
  | succ N ih =>
    intro t ht hn bl A c k w hbl hR
    obtain ⟨W0, hW0⟩ : ∃ W, (w.alloc (.cells #[.int .i64 t.op, .int .i64 t.vr, .string t.nm, .slice A t.ks.length c] 24)).alloc (.cells #[.int .i64 0, .int .i64 0, .string ⟨#[]⟩, .slice none 0 0] 24) = W := ⟨_, rfl⟩
    have hz1 : (w.alloc (.cells #[.int .i64 t.op, .int .i64 t.vr, .string t.nm, .slice A t.ks.length c] 24)).heap.size = w.heap.size + 1 := by simp
    have hal : Below w.heap.size w W0 := by rw [← hW0]; exact bt (bal _ _) (bal _ _)
    have hzw : W0.heap.size = w.heap.size + 1 + 1 := by rw [← hW0]; simp
    have q0 : Blk W0 w.heap.size 24 #[.int .i64 t.op, .int .i64 t.vr, .string t.nm, .slice A t.ks.length c] := by rw [← hW0]; exact (Blk.new w 24 _).below (bal _ _) (by simp)
    have q1 : Blk W0 (w.heap.size + 1) 24 #[.int .i64 0, .int .i64 0, .string ⟨#[]⟩, .slice none 0 0] := by
      rw [← hW0]
      have h := Blk.new (w.alloc (.cells #[.int .i64 t.op, .int .i64 t.vr, .string t.nm, .slice A t.ks.length c] 24)) 24 #[.int .i64 0, .int .i64 0, .string ⟨#[]⟩, .slice none 0 0]
      rw [hz1] at h
      exact h
    have hbw : bl < w.heap.size := hbl.lt
    have qb : Blk W0 bl 3 #[.int .i64 k] := hbl.below hal hbw
    have hlen := szL_len t.ks
    have hszt := sz_eq t
    have hkb : t.ks.length ≤ 1000000000 := by omega
    have HIH := Lib.hid (fun t h => ih t h (by omega))
    have HKS := Lib.hid (fun i (hi : i < t.ks.length) => (show (kd t.ks i).sz ≤ N by have := kd_sz hi; omega))
    obtain ⟨n, hnn⟩ : ∃ n, t.ks.length = n := ⟨_, rfl⟩
    have HM := Lib.hid hnn.symm
    obtain ⟨k1, hk1⟩ : ∃ k1, wrap64 (k - ↑n) = k1 := ⟨_, rfl⟩
    obtain ⟨W1, hW1⟩ : ∃ W1, (W0.setCell ⟨bl, 0, none⟩ (.int .i64 k1)).drew = W1 := ⟨_, rfl⟩
    have F1 : Lq bl w W1 := by
      rw [← hW1]
      exact (((Frm.refl (fun b => b = bl) w).trans (Frm.of_below hal)).set (g := bl) rfl 0 _).trans (Frm.of_below ((Below.refl _ _).drew))
    have hz3 : W1.heap.size = W0.heap.size := by rw [← hW1]; simp
    have L1 : Lq bl W0 W1 := by
      rw [← hW1]
      exact ((Frm.refl (fun b => b = bl) W0).set (g := bl) rfl 0 _).trans (Frm.of_below ((Below.refl _ _).drew))
    have r0 : Blk W1 w.heap.size 24 #[.int .i64 t.op, .int .i64 t.vr, .string t.nm, .slice A n c] := by rw [← hnn]; exact q0.frm L1 (by omega)
    have r1 : Blk W1 (w.heap.size + 1) 24 #[.int .i64 0, .int .i64 0, .string ⟨#[]⟩, .slice none 0 0] := q1.frm L1 (by omega)
    have rb : Blk W1 bl 3 #[.int .i64 k1] := by rw [← hW1]; exact (qb.set_ 0 _).below ((Below.refl _ _).drew) (by have := qb.lt; simpa using this)
    have hR1 : RepS (Lb Pz bl) W1 A t := hR.lb (F1.below2 (fun k hk e => by omega) (by omega))
    have e0 : W0.cell? ⟨bl, 0, none⟩ = some (.int .i64 k) := qb.cell 0
    have f0 := qb.frozen 0
    have l0 := qb.lt
    rw [hnn] at q0 hW0
    have p3 : W0.cell? ⟨w.heap.size, 3, none⟩ = some (.slice A n c) := q0.cell 3
    have HW0 := Lib.hid hW0
    have HW1 := Lib.hid hW1
    have HF1 := Lib.hid F1
    have HR1 := Lib.hid hR1
    have HB0 := Lib.hid r0
    have HB1 := Lib.hid r1
    have HBB := Lib.hid rb
    have HBL := Lib.hid hbw
    have HZ1 : Hid (W1.heap.size = w.heap.size + 1 + 1) := Lib.hid (by omega)
    have s0 : W1.cell? ⟨w.heap.size, 0, none⟩ = some (.int .i64 t.op) := r0.cell 0
    have s1 : W1.cell? ⟨w.heap.size, 1, none⟩ = some (.int .i64 t.vr) := r0.cell 1
    have s2 : W1.cell? ⟨w.heap.size, 2, none⟩ = some (.string t.nm) := r0.cell 2
    have s3 : W1.cell? ⟨w.heap.size, 3, none⟩ = some (.slice A n c) := r0.cell 3
    have sl := r0.lt
    have sb : W1.cell? ⟨bl, 0, none⟩ = some (.int .i64 k1) := rb.cell 0
    have hcl0 := clone_tree c hR1 (fun y hy => by omega) hkb
    rw [hnn] at hcl0 hkb
    show Calls Try.prog 71 #[.agg #[.int .i64 t.op, .int .i64 t.vr, .string t.nm, .slice A t.ks.length c], .pointer (some ⟨bl, 0, none⟩)] w _
    rw [hnn]
    clear ih ht hn hbl hR hlen hszt hz1 hal hzw q0 q1 qb F1 hz3 L1 r0 r1 rb hR1 hnn hW0 hW1 hbw
    by_cases hneg : k1 < 0
    · have v0 := HB1.out.cell 0
      have v1 := HB1.out.cell 1
      have v2 := HB1.out.cell 2
      have v3 := HB1.out.cell 3
      have u0 := HB1.out.frozen 0
      have u1 := HB1.out.frozen 1
      have u2 := HB1.out.frozen 2
      have u3 := HB1.out.frozen 3
      have ul := HB1.out.lt
      clear hcl0
      go_enter Try.func71, Try.ntmps71
      go_upto_region 1 with (fail)
      rw [HW0.out]
      go_region
      all_goals go_upto_region 2 with (fail)
      rw [HW1.out]
      go_wp2
      have hbl := HBL.out
      have hz := HZ1.out
      refine bodyPost_ret (res_ex rfl _ _ (w.heap.size + 1) _ _ _ _ rfl ((((HB1.out.set_ 0 _).set_ 1 _).set_ 2 _).set_ 3 _)) rfl ⟨A, c, k1, (by show _ = Ending.returned (.agg #[.int .i64 t.op, .int .i64 t.vr, .string t.nm, .slice A t.ks.length c]); rw [← HM.out]), (set4_blk _ _ _ _ _ (by omega)).trans HBB.out, (HR1.out.kept (fun y hy => set4_blk _ _ _ _ _ (by omega))).mono (fun y hy => .inl hy), lq_s4 HF1.out (by omega) _ _ _ _ _ _ _ _⟩
    · obtain ⟨ka, kc, hkk, hcl⟩ := hcl0
      have HCL := Lib.hid hcl
      have HKK := Lib.hid hkk
      clear hcl hkk
      go_enter Try.func71, Try.ntmps71
      go_upto_region 1 with (fail)
      rw [HW0.out]
      go_region
      all_goals go_upto_region 2 with (fail)
      rw [HW1.out]
      go_upto_region 5 with (go_at_call 96; (with_reducible refine HCL.out.mono ?_); rintro e w2 ⟨A2, c2, rfl, hb2, hg2⟩; have b2 := HB0.out.below hb2 HB0.out.lt; have x3 : w2.cell? ⟨w.heap.size, 3, none⟩ = some (.slice A n c) := b2.cell 3; have xf := b2.frozen 3; have xl := b2.lt; have HB2 := Lib.hid hb2; have HG2 := Lib.hid hg2; clear hb2 hg2 b2)
      obtain ⟨w3, hw3⟩ : ∃ w3, w2.setCell ⟨w.heap.size, 3, none⟩ (.slice A2 n c2) = w3 := ⟨_, rfl⟩
      rw [hw3]
      have hP0 : Hid (TdS Pz bl t A2 c2 n w 0 w3 k1) := Lib.hid (TdS.start HF1.out HB0.out HB1.out HBB.out HBL.out HZ1.out HM.out (fun j hj => HKK.out j (by rw [HM.out]; exact hj)) HB2.out HG2.out hw3)
      clear hw3 x3 xf xl s0 s1 s2 s3 sl sb e0 f0 l0 p3 HB2 HG2 HCL HKK HW0 HW1 HF1 HR1 HB0 HB1 HBB HZ1 hneg
      have y3 : w3.cell? ⟨w.heap.size, 3, none⟩ = some (.slice A2 n c2) := hP0.out.b0.cell 3
      go_wp2
      clear y3
      go_loopw [27] (fun i wr => ∃ (j : Nat) (kk : Int), j ≤ n ∧ i = .int .i64 (j : Int) ∧ Hid (TdS Pz bl t A2 c2 n w j wr kk)) (fun i _ => n - (intOf i).toNat)
      case atStart => exact ⟨0, k1, Nat.zero_le _, rfl, hP0⟩
      case round =>
        obtain ⟨i, kk, hi, rfl, HP⟩ := hrel
        by_cases hlt : i < n
        · have l1 : (i : Int) < (n : Int) := by omega
          have l0 : (0 : Int) ≤ (i : Int) := by omega
          obtain ⟨g, ka, kc, rfl, hg0, hgl, d0, d1, d2, d3, _, hro⟩ := HP.out.at hlt
          have HRO := Lib.hid hro
          have hi2 : i < t.ks.length := by rw [← HM.out]; exact hlt
          have HC : Hid (∀ wx, Below wr.heap.size wr wx → Calls Try.prog 71 #[exV (kd t.ks i) ka kc, .pointer (some ⟨bl, 0, none⟩)] wx (DetT Pz bl (kd t.ks i) wx)) := Lib.hid (fun wx hx => by
            have hP := HP.out.below hx
            exact HIH.out (kd t.ks i) (HKS.out i hi2) bl ka kc kk wx hP.bb (HRO.out.lb (hx.mono (by have := HP.out.hz; have := HBL.out; omega))))
          obtain ⟨u, hu⟩ : ∃ u, kd t.ks i = u := ⟨_, rfl⟩
          have HU := Lib.hid hu
          rw [hu] at HC d0 d1 d2 d3
          obtain ⟨wk, hwk⟩ : ∃ wk, wr.alloc (.cells #[.int .i64 u.op, .int .i64 u.vr, .string u.nm, .slice ka u.ks.length kc] 24) = wk := ⟨_, rfl⟩
          have hbk : Below wr.heap.size wr wk := by rw [← hwk]; exact bal _ _
          have hkv : Blk wk wr.heap.size 24 #[.int .i64 u.op, .int .i64 u.vr, .string u.nm, .slice ka u.ks.length kc] := by rw [← hwk]; exact Blk.new wr 24 _
          have HBK := Lib.hid hbk
          have HKV := Lib.hid hkv
          have HWK := Lib.hid hwk
          have HDR : Hid (Below wk.heap.size wk wk.drew) := Lib.hid ((Below.refl _ _).drew)
          have HBD : Hid (Below wr.heap.size wr wk.drew) := Lib.hid (bt HBK.out HDR.out)
          have HPL : Hid (∀ w4, Lq bl wk w4 → w4.cell? ⟨w.heap.size, 3, none⟩ = some (.slice (some ⟨g, 0, none⟩) n c2) ∧ w4.cell? ⟨wr.heap.size, 0, none⟩ = some (.int .i64 u.op) ∧ w4.cell? ⟨wr.heap.size, 1, none⟩ = some (.int .i64 u.vr) ∧ w4.cell? ⟨wr.heap.size, 2, none⟩ = some (.string u.nm) ∧ w4.cell? ⟨wr.heap.size, 3, none⟩ = some (.slice ka u.ks.length kc)) := Lib.hid (fun w4 hl => by
            have hP := HP.out.below HBK.out
            have hz := HP.out.hz
            have hbl := HBL.out
            have hk2 := HKV.out.frm hl (by omega)
            have q0 := hP.b0.frm hl (by omega)
            exact ⟨q0.cell 3, hk2.cell 0, hk2.cell 1, hk2.cell 2, hk2.cell 3⟩)
          have HPT : Hid (∀ w4 a b1 c1 d1, Lq bl wk w4 → (S4 w4 g (i * 4) a b1 c1 d1).cell? ⟨w.heap.size, 3, none⟩ = some (.slice (some ⟨g, 0, none⟩) n c2) ∧ (S4 w4 g (i * 4) a b1 c1 d1).cell? ⟨wr.heap.size, 0, none⟩ = some (.int .i64 u.op) ∧ (S4 w4 g (i * 4) a b1 c1 d1).cell? ⟨wr.heap.size, 1, none⟩ = some (.int .i64 u.vr) ∧ (S4 w4 g (i * 4) a b1 c1 d1).cell? ⟨wr.heap.size, 2, none⟩ = some (.string u.nm) ∧ (S4 w4 g (i * 4) a b1 c1 d1).cell? ⟨wr.heap.size, 3, none⟩ = some (.slice ka u.ks.length kc)) := Lib.hid (fun w4 a b1 c1 d1 hl => by
            have hP := HP.out.below HBK.out
            have hz := HP.out.hz
            have hbl := HBL.out
            have hk2 := HKV.out.frm hl (by omega)
            have q0 := hP.b0.frm hl (by omega)
            have r2 : Blk (S4 w4 g (i * 4) a b1 c1 d1) _ _ _ := (set4_blk w4 a b1 c1 d1 (by omega)).trans hk2
            have r0 : Blk (S4 w4 g (i * 4) a b1 c1 d1) _ _ _ := (set4_blk w4 a b1 c1 d1 (by omega)).trans q0
            exact ⟨r0.cell 3, r2.cell 0, r2.cell 1, r2.cell 2, r2.cell 3⟩)
          have HPS : Hid (∀ w4 k4, Lq bl wk.drew w4 → Blk w4 bl 3 #[.int .i64 k4] → w4.cell? ⟨g, i * 4, none⟩ = some (.int .i64 u.op) ∧ w4.cell? ⟨g, i * 4 + 1, none⟩ = some (.int .i64 u.vr) ∧ w4.cell? ⟨g, i * 4 + 2, none⟩ = some (.string u.nm) ∧ (∃ z, w4.cell? ⟨g, i * 4 + 3, none⟩ = some z) ∧ (w4.frozen? ⟨g, i * 4, none⟩ = false ∧ w4.frozen? ⟨g, i * 4 + 1, none⟩ = false ∧ w4.frozen? ⟨g, i * 4 + 2, none⟩ = false ∧ w4.frozen? ⟨g, i * 4 + 3, none⟩ = false) ∧ g < w4.heap.size) := Lib.hid (fun w4 k4 hl hb => by
            obtain ⟨g', _, _, e, _, h2, c0, c1, c2', c3, fr, _⟩ := ((HP.out.below HBD.out).frm hl hb).at hlt
            have e2 : g = g' := by simpa using e
            subst e2
            rw [HU.out] at c0 c1 c2'
            exact ⟨c0, c1, c2', ⟨_, c3⟩, ⟨fr 0, fr 1, fr 2, fr 3⟩, h2⟩)
          have HST : Hid (∀ w4 A4 c4 k4, Lq bl wk.drew w4 → Blk w4 bl 3 #[.int .i64 k4] → RepS (Od Pz bl wk.drew.heap.size w4) w4 A4 u → TdS Pz bl t (some ⟨g, 0, none⟩) c2 n w (i + 1) (S4 w4 g (i * 4) (.int .i64 u.op) (.int .i64 u.vr) (.string u.nm) (.slice A4 u.ks.length c4)) k4) := Lib.hid (fun w4 A4 c4 k4 hl hb hr => by
            have hst := HP.out.step hlt (A' := A4) (c' := c4) wk.drew (Frm.of_below HBD.out) hl hb (by rw [HU.out]; exact hr) g rfl
            rw [HU.out] at hst
            exact hst)
          have HDL : Hid (∀ w4, Lq bl wk.drew w4 → Lq bl wk w4) := Lib.hid (fun w4 h => (Frm.of_below HDR.out).trans h)
          clear hu hwk hbk hkv hro
          go_upto_region 8 with (fail)
          rw [HWK.out]
          go_region_held3 (fun wx => wx.cell? ⟨w.heap.size, 3, none⟩ = some (.slice (some ⟨g, 0, none⟩) n c2) ∧ wx.cell? ⟨wr.heap.size, 0, none⟩ = some (.int .i64 u.op) ∧ wx.cell? ⟨wr.heap.size, 1, none⟩ = some (.int .i64 u.vr) ∧ wx.cell? ⟨wr.heap.size, 2, none⟩ = some (.string u.nm) ∧ wx.cell? ⟨wr.heap.size, 3, none⟩ = some (.slice ka u.ks.length kc)) (first | with_reducible exact HK4.out | with_reducible exact HK5.out | exact HPL.out _ (Frm.of_below HDR.out) | exact HPL.out _ (Frm.refl _ _)) ((go_at_call 71; (with_reducible refine (HC.out _ HBD.out).mono ?_); rintro e w4 hpp; obtain ⟨A4, c4, k4, rfl, hB4, hR4, hL4⟩ := hpp; have HK4 := Lib.hid (HPL.out w4 (HDL.out w4 hL4)); have HK5 := Lib.hid (HPT.out w4 (.int .i64 u.op) (.int .i64 u.vr) (.string u.nm) (.slice A4 u.ks.length c4) (HDL.out w4 hL4)); obtain ⟨y0, y1, y2, ⟨yz, y3⟩, ⟨z0, z1, z2, z3⟩, zl⟩ := HPS.out w4 k4 hL4 hB4; have HS4 := Lib.hid (HST.out w4 A4 c4 k4 hL4 hB4 hR4); clear hB4 hR4 hL4))
          all_goals go_wp2
          go_roundw
          case rel => exact ⟨i + 1, k4, by omega, by go_num, HS4⟩
          case measure => simp [intOf]; try omega
        · have l1 : ¬ (i : Int) < (n : Int) := by omega
          obtain rfl : i = n := by omega
          have s0 := HP.out.b0.cell 0
          have s1 := HP.out.b0.cell 1
          have s2 := HP.out.b0.cell 2
          have s3 := HP.out.b0.cell 3
          have sl := HP.out.b0.lt
          have v0 := HP.out.b1.cell 0
          have v1 := HP.out.b1.cell 1
          have v2 := HP.out.b1.cell 2
          have v3 := HP.out.b1.cell 3
          have u0 := HP.out.b1.frozen 0
          have u1 := HP.out.b1.frozen 1
          have u2 := HP.out.b1.frozen 2
          have u3 := HP.out.b1.frozen 3
          have ul := HP.out.b1.lt
          go_wp2
          have hz := HP.out.hz
          have hbl := HBL.out
          have hdone : RepS (fun y => Od Pz bl w.heap.size wr y ∧ y ≠ w.heap.size + 1) wr A2 t := by
            rcases Nat.eq_zero_or_pos i with h0 | h0
            · exact RepS.leaf (by rw [← HM.out]; exact h0)
            · obtain ⟨g, e, g1, g2, g3⟩ := HP.out.row h0
              rw [e]
              refine (g3.done (G := g) (by omega) g2 (Nat.le_refl _)).mono (fun y hy => ?_)
              rcases hy with h | h
              · exact ⟨.inl h, by omega⟩
              · exact ⟨.inr ⟨by omega, h.2⟩, by omega⟩
          refine bodyPost_ret (res_ex rfl _ _ (w.heap.size + 1) _ _ _ _ rfl ((((HP.out.b1.set_ 0 _).set_ 1 _).set_ 2 _).set_ 3 _)) rfl ⟨A2, c2, kk, (by show _ = Ending.returned (.agg #[.int .i64 t.op, .int .i64 t.vr, .string t.nm, .slice A2 t.ks.length c2]); rw [← HM.out]), (set4_blk _ _ _ _ _ (by omega)).trans HP.out.bb, (hdone.kept (fun y hy => set4_blk _ _ _ _ _ hy.2)).mono (fun y hy => hy.1.imp id (fun h => ⟨h.1, by rw [set4_size]; exact h.2⟩)), lq_s4 HP.out.lf (by omega) _ _ _ _ _ _ _ _⟩
end Go.Proofs.Ytnjkphopklbogaa
namespace Go.Proofs.Ytnjkphopklbogaa
open Go.RowKit

/-- The Kids of the formula lie at A, and what is nested in them where they say, all in blocks of P. -/
inductive RepFS (P : Nat → Prop) (w : World) : Option Addr → Fx → Prop where
  | mk (A : Option Addr) (t : Fx) (ka ea : Nat → Option Addr) (kc ec : Nat → Nat)
      (hrow : 0 < t.ks.length → ∃ b f, A = some ⟨b, f, none⟩ ∧ P b ∧ ∀ i, i < t.ks.length → FAt w b (f + i * 6) (fkd t.ks i) (ea i) (ec i) (ka i) (kc i))
      (hterm : ∀ i, i < t.ks.length → RepS P w (ea i) (fkd t.ks i).e)
      (hkid : ∀ i, i < t.ks.length → RepFS P w (ka i) (fkd t.ks i)) : RepFS P w A t
theorem RepF.toS {B : Nat} {w : World} {A : Option Addr} {t : Fx} (h : RepF B w A t) : RepFS (· < B) w A t := by
  induction h with
  | mk A t ka ea kc ec hrow hterm hkid ih => exact .mk A t ka ea kc ec hrow (fun i hi => (hterm i hi).toS) ih
theorem RepFS.toR {P : Nat → Prop} {B : Nat} {w : World} {A : Option Addr} {t : Fx} (h : RepFS P w A t) (hP : ∀ b, P b → b < B) : RepF B w A t := by
  induction h with
  | mk A t ka ea kc ec hrow hterm hkid ih =>
    refine .mk A t ka ea kc ec (fun hp => ?_) (fun i hi => (hterm i hi).toR hP) ih
    obtain ⟨b, f, e, hb, hc⟩ := hrow hp
    exact ⟨b, f, e, hP b hb, hc⟩
theorem RepFS.mono {P P' : Nat → Prop} {w : World} {A : Option Addr} {t : Fx} (h : RepFS P w A t) (hP : ∀ b, P b → P' b) : RepFS P' w A t := by
  induction h with
  | mk A t ka ea kc ec hrow hterm hkid ih =>
    refine .mk A t ka ea kc ec (fun hp => ?_) (fun i hi => (hterm i hi).mono hP) ih
    obtain ⟨b, f, e, hb, hc⟩ := hrow hp
    exact ⟨b, f, e, hP b hb, hc⟩
theorem RepFS.kept {P : Nat → Prop} {w w' : World} {A : Option Addr} {t : Fx} (h : RepFS P w A t) (hw : ∀ b, P b → w'.heap[b]? = w.heap[b]?) : RepFS P w' A t := by
  induction h with
  | mk A t ka ea kc ec hrow hterm hkid ih =>
    refine .mk A t ka ea kc ec (fun hp => ?_) (fun i hi => (hterm i hi).kept hw) ih
    obtain ⟨b, f, e, hb, hc⟩ := hrow hp
    exact ⟨b, f, e, hb, fun i hi => (hc i hi).turn (fun o => World.cell?_of_block (a := ⟨b, o, none⟩) (hw b hb))⟩
theorem RepFS.leaf {P : Nat → Prop} {w : World} {A : Option Addr} {t : Fx} (h : t.ks.length = 0) : RepFS P w A t :=
  .mk A t (fun _ => none) (fun _ => none) (fun _ => 0) (fun _ => 0) (fun hp => by omega) (fun i hi => by omega) (fun i hi => by omega)
/-- A formula by value, what it holds in blocks of P. -/
def FmS (P : Nat → Prop) (w : World) (t : Fx) (E A : Option Addr) : Prop := RepS P w E t.e ∧ RepFS P w A t
theorem Fm.toS {B : Nat} {w : World} {t : Fx} {E A : Option Addr} (h : Fm B w t E A) : FmS (· < B) w t E A := ⟨h.1.toS, h.2.toS⟩
theorem FmS.toR {P : Nat → Prop} {B : Nat} {w : World} {t : Fx} {E A : Option Addr} (h : FmS P w t E A) (hP : ∀ b, P b → b < B) : Fm B w t E A := ⟨h.1.toR hP, h.2.toR hP⟩
theorem FmS.mono {P P' : Nat → Prop} {w : World} {t : Fx} {E A : Option Addr} (h : FmS P w t E A) (hP : ∀ b, P b → P' b) : FmS P' w t E A := ⟨h.1.mono hP, h.2.mono hP⟩
theorem FmS.kept {P : Nat → Prop} {w w' : World} {t : Fx} {E A : Option Addr} (h : FmS P w t E A) (hw : ∀ b, P b → w'.heap[b]? = w.heap[b]?) : FmS P w' t E A := ⟨h.1.kept hw, h.2.kept hw⟩
theorem flatN_at {α : Type} (F : Nat → List α) (m : Nat) (hF : ∀ i, (F i).length = m) : ∀ (l : List Nat) (i j : Nat) (a : Nat), l[i]? = some a → j < m → (l.flatMap F)[i * m + j]? = (F a)[j]?
  | x :: r, 0, j, a, hi, hj => by
    obtain rfl : x = a := by simpa using hi
    rw [List.flatMap_cons, Nat.zero_mul, Nat.zero_add, List.getElem?_append_left (by rw [hF]; exact hj)]
  | x :: r, i + 1, j, a, hi, hj => by
    rw [List.flatMap_cons, List.getElem?_append_right (by rw [hF, Nat.add_mul]; omega), hF, show (i + 1) * m + j - m = i * m + j by rw [Nat.add_mul]; omega]
    exact flatN_at F m hF r i j a (by simpa using hi) hj
theorem flatN_len {α : Type} (F : Nat → List α) (m : Nat) (hF : ∀ i, (F i).length = m) : ∀ l : List Nat, (l.flatMap F).length = l.length * m
  | [] => by simp
  | a :: r => by rw [List.flatMap_cons, List.length_append, flatN_len F m hF r, hF, List.length_cons, Nat.add_mul]; omega
/-- The cells of the formulas ks. -/
def csF (ks : List Fx) (ea ka : Nat → Option Addr) (ec kc : Nat → Nat) : List Value := (List.range ks.length).flatMap fun i => (fC (fkd ks i) (ea i) (ec i) (ka i) (kc i)).toList
theorem csF_len (ks : List Fx) (ea ka : Nat → Option Addr) (ec kc : Nat → Nat) : (csF ks ea ka ec kc).length = ks.length * 6 := by
  unfold csF
  rw [flatN_len _ 6 (fun i => rfl), List.length_range]
theorem csF_at {ks : List Fx} {ea ka : Nat → Option Addr} {ec kc : Nat → Nat} {i j : Nat} (hi : i < ks.length) (hj : j < 6) : (csF ks ea ka ec kc)[i * 6 + j]? = (fC (fkd ks i) (ea i) (ec i) (ka i) (kc i)).toList[j]? := by
  unfold csF
  exact flatN_at _ 6 (fun i => rfl) _ i j i (by simp [hi]) hj
theorem csF_one (ks : List Fx) (ea ka : Nat → Option Addr) (ec kc : Nat → Nat) : ∀ u ∈ csF ks ea ka ec kc, u.oneCell' = true := by
  intro u hu
  unfold csF at hu
  rw [List.mem_flatMap] at hu
  obtain ⟨i, _, hi⟩ := hu
  simp only [List.mem_cons, List.not_mem_nil, or_false] at hi
  rcases hi with rfl | rfl | rfl | rfl | rfl | rfl <;> rfl
theorem info27 : (Try.prog.info? 27).map (fun i => (i.zero, i.size, i.bytes)) = some (some (.agg #[.int .i64 0, .int .i64 0, .int .i64 0, .string ⟨#[]⟩, .slice none 0 0, .slice none 0 0]), 6, 88) := by kernel_rfl
def CloneF (w : World) (n : Nat) (cs : List Value) (e : Ending) (w' : World) : Prop := ∃ A c, e = .returned (.slice A n c) ∧ Below w.heap.size w w' ∧
  (0 < n → ∃ g, A = some ⟨g, 0, none⟩ ∧ w.heap.size ≤ g ∧ g < w'.heap.size ∧ (∀ j, j < n * 6 → w'.cell? ⟨g, j, none⟩ = cs[j]?) ∧ ∀ j, w'.frozen? ⟨g, j, none⟩ = false)
set_option maxRecDepth 100000 in
set_option maxHeartbeats 2000000 in
theorem pr_CloneF (A : Option Addr) (n c : Nat) (cs : List Value) (w : World) (hn : n ≤ 1000000000) (hl : cs.length = n * 6) (h1 : ∀ u ∈ cs, u.oneCell' = true) (hA : A = none → n = 0)
    (hc : ∀ ad, A = some ad → ∀ j u, cs[j]? = some u → w.cell? (ad.add j) = some u) (hb : ∀ ad, A = some ad → n = 0 ∨ ad.block < w.heap.size) :
    Calls Try.prog 72 #[.slice A n c] w (CloneF w n cs) := by
  obtain ⟨i0, hi0, hz0, hz1, hz2⟩ := info_parts info27
  have q27 : ∀ (w : World) (a : Option Addr) (n c n' c' : Nat), (binOp .eql 25 (.slice a n c) (.slice none n' c')).run Try.prog w = .ok (.bool a.isNone) w := fun w a n c n' c' => Lib.run_eql_slice_nil w _ _ a n c n' c' Try.underlying25
  rcases A with _ | ad
  · obtain rfl := hA rfl
    clear hc hb
    go_enter Try.func72, Try.ntmps72
    go_wp2
    go_ret
    exact ⟨none, 0, rfl, Below.refl _ _, fun h => absurd h (by decide)⟩
  · have HC := Lib.hid (hc ad rfl)
    have HB := Lib.hid (hb ad rfl)
    have HL := Lib.hid hl
    have H1 := Lib.hid h1
    clear hc hb hA hl h1
    go_enter Try.func72, Try.ntmps72
    go_wp2_with (at_builtin; refine wpList_append_own _ rfl _ _ 25 rfl w.heap.size 27 i0 _ 6 88 Try.underlying25 hi0 hz0 hz1 hz2 rfl (by decide) _ _ _ rfl (World.ownsRow_made w #[] 0 (Nat.le_refl _) (Nat.zero_le _) rfl) ad n c cs rfl HL.out ?qc2 H1.out ?qc4 ?qc5 ?qc6 ?_)
    case qc2 =>
      intro j u hj
      have h0 := HC.out j u hj
      have hlt : ad.block < w.heap.size := by
        rcases HB.out with h | h
        · have := HL.out
          rw [h] at this
          have e : cs = [] := List.eq_nil_of_length_eq_zero (by omega)
          rw [e] at hj
          cases hj
        · exact h
      have hb2 : Below w.heap.size w (w.alloc (.cells #[] 27)) := (Below.refl _ _).alloc (Nat.le_refl _) _
      exact (hb2.cell (p := ad.add j) (by rw [add_block']; exact hlt)).trans h0
    case qc4 => unfold maxLen; omega
    case qc5 => omega
    case qc6 => simp
    intro v' w1 hown hgrow _
    have hBw : Below w.heap.size w w1 := ((Below.refl _ w).alloc (Nat.le_refl _) _).grown hgrow (by simp) (by intro k hk; simp [Value.ownBlock] at hk; omega)
    have HBw := Lib.hid hBw
    have ho : ∃ A' c', v' = .slice A' n c' ∧ (0 < n → ∃ g, A' = some ⟨g, 0, none⟩ ∧ w.heap.size ≤ g ∧ g < w1.heap.size ∧ (∀ j, j < n * 6 → w1.cell? ⟨g, j, none⟩ = cs[j]?) ∧ ∀ j, w1.frozen? ⟨g, j, none⟩ = false) := by
      rcases hown with ⟨_, ⟨hv, h0⟩ | ⟨g, cap, cur, hv, hg, hh, hnc, hcm, hcs, htk⟩⟩
      · have hn0 : n = 0 := by omega
        subst hn0
        exact ⟨none, 0, hv, fun h => absurd h (by decide)⟩
      · have hk : Blk w1 g 27 cur := hh
        refine ⟨some ⟨g, 0, none⟩, cap, hv, fun _ => ⟨g, rfl, hg, hk.lt, fun j hj => ?_, fun j => hk.frozen j⟩⟩
        rw [hk.cell j]
        have htk2 : cur.toList.take (n * 6) = cs := htk
        rw [← htk2, List.getElem?_take, if_pos hj, Array.getElem?_toList]
    obtain ⟨A', c', rfl, ho2⟩ := ho
    have HO := Lib.hid ho2
    clear hown hgrow hBw ho2
    go_wp2
    go_ret
    exact ⟨A', c', rfl, HBw.out, HO.out⟩
end Go.Proofs.Ytnjkphopklbogaa
namespace Go.Proofs.Ytnjkphopklbogaa
open Go.RowKit
variable {Pz : Nat → Prop}
theorem RepFS.lb {bl : Nat} {w w' : World} {A : Option Addr} {t : Fx} (h : RepFS (Lb Pz bl) w A t) (hb : Below bl w w') : RepFS (Lb Pz bl) w' A t := h.kept (fun x hx => hb.block x hx.1)
theorem FmS.lb {bl : Nat} {w w' : World} {E A : Option Addr} {t : Fx} (h : FmS (Lb Pz bl) w t E A) (hb : Below bl w w') : FmS (Lb Pz bl) w' t E A := ⟨h.1.lb hb, h.2.lb hb⟩

theorem clone_treeF {P : Nat → Prop} {w : World} {A : Option Addr} {t : Fx} (c : Nat) (h : RepFS P w A t) (hP : ∀ x, P x → x < w.heap.size) (hl : t.ks.length ≤ 1000000000) :
    ∃ ea ka ec kc, (∀ i, i < t.ks.length → FmS P w (fkd t.ks i) (ea i) (ka i)) ∧ Calls Try.prog 72 #[.slice A t.ks.length c] w (CloneF w t.ks.length (csF t.ks ea ka ec kc)) := by
  cases h with
  | mk _ _ ka ea kc ec hrow hterm hkid =>
    refine ⟨ea, ka, ec, kc, fun i hi => ⟨hterm i hi, hkid i hi⟩, pr_CloneF A t.ks.length c (csF t.ks ea ka ec kc) w hl (csF_len _ _ _ _ _) (csF_one _ _ _ _ _) (fun e => ?_) (fun ad e j u hu => ?_) (fun ad e => ?_)⟩
    · rcases Nat.eq_zero_or_pos t.ks.length with h0 | h0
      · exact h0
      · obtain ⟨b, f, e2, _⟩ := hrow h0
        rw [e] at e2; cases e2
    · have hj : j < (csF t.ks ea ka ec kc).length := (List.getElem?_eq_some_iff.1 hu).1
      rw [csF_len] at hj
      obtain ⟨b, f, e2, hb, hc⟩ := hrow (by omega)
      rw [e] at e2
      obtain rfl := Option.some.inj e2
      have hi : j / 6 < t.ks.length := by omega
      have hr : j % 6 < 6 := by omega
      have hd : j = j / 6 * 6 + j % 6 := by omega
      have ha : (⟨b, f, none⟩ : Addr).add j = ⟨b, f + j, none⟩ := add3 b f j
      rw [hd, csF_at hi hr] at hu
      rw [ha]
      obtain ⟨c0, c1, c2, c3, c4, c5⟩ := hc (j / 6) hi
      rcases (show j % 6 = 0 ∨ j % 6 = 1 ∨ j % 6 = 2 ∨ j % 6 = 3 ∨ j % 6 = 4 ∨ j % 6 = 5 by omega) with h0 | h0 | h0 | h0 | h0 | h0
      · rw [h0] at hu
        rw [show f + j = f + j / 6 * 6 by omega, c0]
        exact hu
      · rw [h0] at hu
        rw [show f + j = f + j / 6 * 6 + 1 by omega, c1]
        exact hu
      · rw [h0] at hu
        rw [show f + j = f + j / 6 * 6 + 2 by omega, c2]
        exact hu
      · rw [h0] at hu
        rw [show f + j = f + j / 6 * 6 + 3 by omega, c3]
        exact hu
      · rw [h0] at hu
        rw [show f + j = f + j / 6 * 6 + 4 by omega, c4]
        exact hu
      · rw [h0] at hu
        rw [show f + j = f + j / 6 * 6 + 5 by omega, c5]
        exact hu
    · rcases Nat.eq_zero_or_pos t.ks.length with h0 | h0
      · exact .inl h0
      · obtain ⟨b, f, e2, hb, _⟩ := hrow h0
        rw [e] at e2
        obtain rfl := Option.some.inj e2
        exact .inr (hP b hb)
abbrev S6 (w : World) (g f : Nat) (a b c d e h : Value) : World := (((((w.setCell ⟨g, f, none⟩ a).setCell ⟨g, f + 1, none⟩ b).setCell ⟨g, f + 2, none⟩ c).setCell ⟨g, f + 3, none⟩ d).setCell ⟨g, f + 4, none⟩ e).setCell ⟨g, f + 5, none⟩ h
theorem set6_blk (w : World) {g x i0 i1 i2 i3 i4 i5 : Nat} (a b c d e h : Value) (hx : x ≠ g) : ((((((w.setCell ⟨g, i0, none⟩ a).setCell ⟨g, i1, none⟩ b).setCell ⟨g, i2, none⟩ c).setCell ⟨g, i3, none⟩ d).setCell ⟨g, i4, none⟩ e).setCell ⟨g, i5, none⟩ h).heap[x]? = w.heap[x]? :=
  (set_blk _ _ _ hx).trans ((set_blk _ _ _ hx).trans ((set_blk _ _ _ hx).trans ((set_blk _ _ _ hx).trans ((set_blk _ _ _ hx).trans (set_blk _ _ _ hx)))))
theorem set6_size (w : World) (g i0 i1 i2 i3 i4 i5 : Nat) (a b c d e h : Value) : ((((((w.setCell ⟨g, i0, none⟩ a).setCell ⟨g, i1, none⟩ b).setCell ⟨g, i2, none⟩ c).setCell ⟨g, i3, none⟩ d).setCell ⟨g, i4, none⟩ e).setCell ⟨g, i5, none⟩ h).heap.size = w.heap.size := by simp
theorem lq_s1 {bl g : Nat} {w W : World} (hf : Lq bl w W) (hg : w.heap.size ≤ g) (i : Nat) (v : Value) : Lq bl w (W.setCell ⟨g, i, none⟩ v) :=
  ⟨hf.os, hf.tape, hf.output, by have := hf.size; simpa using this, fun k hk hn => (set_blk _ _ _ (by omega)).trans (hf.block k hk hn)⟩
theorem lq_s6 {bl g : Nat} {w W : World} (hf : Lq bl w W) (hg : w.heap.size ≤ g) (i0 i1 i2 i3 i4 i5 : Nat) (a b c d e h : Value) : Lq bl w ((((((W.setCell ⟨g, i0, none⟩ a).setCell ⟨g, i1, none⟩ b).setCell ⟨g, i2, none⟩ c).setCell ⟨g, i3, none⟩ d).setCell ⟨g, i4, none⟩ e).setCell ⟨g, i5, none⟩ h) :=
  lq_s1 (lq_s1 (lq_s1 (lq_s1 (lq_s1 (lq_s1 hf hg _ _) hg _ _) hg _ _) hg _ _) hg _ _) hg _ _
theorem s6_ne (w : World) {g f o : Nat} (a b c d e h : Value) (ho : o < f ∨ f + 6 ≤ o) : (S6 w g f a b c d e h).cell? ⟨g, o, none⟩ = w.cell? ⟨g, o, none⟩ := by
  rw [sc_ne _ _ (by omega), sc_ne _ _ (by omega), sc_ne _ _ (by omega), sc_ne _ _ (by omega), sc_ne _ _ (by omega), sc_ne _ _ (by omega)]
theorem s6_fr (w : World) {g f o : Nat} (a b c d e h : Value) : (S6 w g f a b c d e h).frozen? ⟨g, o, none⟩ = w.frozen? ⟨g, o, none⟩ := by
  rw [sc_fr, sc_fr, sc_fr, sc_fr, sc_fr, sc_fr]
theorem s6_at (w : World) {g f : Nat} {t t0 : Fx} {E E0 A A0 : Option Addr} {d d0 c c0 : Nat} (hc : FAt w g f t0 E0 d0 A0 c0) :
    FAt (S6 w g f (.int .i64 t.op) (.int .i64 t.e.op) (.int .i64 t.e.vr) (.string t.e.nm) (.slice E t.e.ks.length d) (.slice A t.ks.length c)) g f t E d A c := by
  obtain ⟨h0, h1, h2, h3, h4, h5⟩ := hc
  refine ⟨?_, ?_, ?_, ?_, ?_, ?_⟩
  · rw [sc_ne _ _ (by omega), sc_ne _ _ (by omega), sc_ne _ _ (by omega), sc_ne _ _ (by omega), sc_ne _ _ (by omega), sc_eq _ _ (by rw [h0]; rfl)]
  · rw [sc_ne _ _ (by omega), sc_ne _ _ (by omega), sc_ne _ _ (by omega), sc_ne _ _ (by omega), sc_eq _ _ (by rw [sc_ne _ _ (by omega), h1]; rfl)]
  · rw [sc_ne _ _ (by omega), sc_ne _ _ (by omega), sc_ne _ _ (by omega), sc_eq _ _ (by rw [sc_ne _ _ (by omega), sc_ne _ _ (by omega), h2]; rfl)]
  · rw [sc_ne _ _ (by omega), sc_ne _ _ (by omega), sc_eq _ _ (by rw [sc_ne _ _ (by omega), sc_ne _ _ (by omega), sc_ne _ _ (by omega), h3]; rfl)]
  · rw [sc_ne _ _ (by omega), sc_eq _ _ (by rw [sc_ne _ _ (by omega), sc_ne _ _ (by omega), sc_ne _ _ (by omega), sc_ne _ _ (by omega), h4]; rfl)]
  · rw [sc_eq _ _ (by rw [sc_ne _ _ (by omega), sc_ne _ _ (by omega), sc_ne _ _ (by omega), sc_ne _ _ (by omega), sc_ne _ _ (by omega), h5]; rfl)]
theorem od_keepF {bl G : Nat} {w w' : World} {E A : Option Addr} {t : Fx} (h : FmS (Od Pz bl G w) w t E A) (hf : Lq bl w w') (hb : bl < w.heap.size) (hG : bl < G) : FmS (Od Pz bl G w') w' t E A :=
  (h.kept (fun x hx => hf.block x (by rcases hx with h | h <;> omega) (by rcases hx with h | h <;> omega))).mono (fun x hx => by
    have := hf.size
    rcases hx with h | h
    · exact .inl h
    · exact .inr ⟨h.1, by omega⟩)
/-- What detached answers. -/
def DetF (Pz : Nat → Prop) (bl : Nat) (t : Fx) (w : World) (e : Ending) (w' : World) : Prop :=
  ∃ E' d' A' c' k', e = .returned (fV t E' d' A' c') ∧ Blk w' bl 3 #[.int .i64 k'] ∧ FmS (Od Pz bl w.heap.size w') w' t E' A' ∧ Lq bl w w'
/-- The row of the Kids in block g: those from i on are the old ones. -/
def FIn (Pz : Nat → Prop) (bl : Nat) (ks : List Fx) (g i : Nat) (w : World) : Prop := ∃ (ea ka : Nat → Option Addr) (ec kc : Nat → Nat), ∀ j, j < ks.length →
  FAt w g (j * 6) (fkd ks j) (ea j) (ec j) (ka j) (kc j) ∧ (∀ r, w.frozen? ⟨g, j * 6 + r, none⟩ = false) ∧ FmS (Od Pz bl (g + 1) w) w (fkd ks j) (ea j) (ka j) ∧ (i ≤ j → FmS (Lb Pz bl) w (fkd ks j) (ea j) (ka j))
theorem FIn.keep {bl : Nat} {ks : List Fx} {g i : Nat} {w w' : World} (h : FIn Pz bl ks g i w) (hf : Lq bl w w') (hg : g < w.heap.size) (hb : bl < g) : FIn Pz bl ks g i w' := by
  obtain ⟨ea, ka, ec, kc, h⟩ := h
  have hbk := hf.block g hg (by omega)
  refine ⟨ea, ka, ec, kc, fun j hj => ?_⟩
  obtain ⟨hc, fr, hr, ho⟩ := h j hj
  exact ⟨hc.turn (fun o => World.cell?_of_block (a := ⟨g, o, none⟩) hbk), fun r => (World.frozen?_of_block (a := ⟨g, _, none⟩) hbk).trans (fr r), od_keepF hr hf (by omega) (by omega), fun hi => (ho hi).kept (fun x hx => hf.block x (by omega) (by omega))⟩
theorem FIn.step {bl : Nat} {ks : List Fx} {g i Gc : Nat} {w : World} (h : FIn Pz bl ks g i w) (hi : i < ks.length) (hb : bl < g) (_hg : g < w.heap.size) (hG : g + 1 ≤ Gc) {E' A' : Option Addr} {d' c' : Nat} (hR : FmS (Od Pz bl Gc w) w (fkd ks i) E' A') :
    FIn Pz bl ks g (i + 1) (S6 w g (i * 6) (.int .i64 (fkd ks i).op) (.int .i64 (fkd ks i).e.op) (.int .i64 (fkd ks i).e.vr) (.string (fkd ks i).e.nm) (.slice E' (fkd ks i).e.ks.length d') (.slice A' (fkd ks i).ks.length c')) := by
  obtain ⟨ea, ka, ec, kc, h⟩ := h
  obtain ⟨w', hw'⟩ : ∃ w', S6 w g (i * 6) (.int .i64 (fkd ks i).op) (.int .i64 (fkd ks i).e.op) (.int .i64 (fkd ks i).e.vr) (.string (fkd ks i).e.nm) (.slice E' (fkd ks i).e.ks.length d') (.slice A' (fkd ks i).ks.length c') = w' := ⟨_, rfl⟩
  have hblk : ∀ x, x ≠ g → w'.heap[x]? = w.heap[x]? := fun x hx => by rw [← hw']; exact set6_blk _ _ _ _ _ _ _ hx
  have hsz : w'.heap.size = w.heap.size := by rw [← hw', set6_size]
  have hfr : ∀ o, w'.frozen? ⟨g, o, none⟩ = w.frozen? ⟨g, o, none⟩ := fun o => by rw [← hw']; exact s6_fr _ _ _ _ _ _ _
  have hne : ∀ o, o < i * 6 ∨ i * 6 + 6 ≤ o → w'.cell? ⟨g, o, none⟩ = w.cell? ⟨g, o, none⟩ := fun o ho => by rw [← hw']; exact s6_ne _ _ _ _ _ _ _ ho
  have hat : FAt w' g (i * 6) (fkd ks i) E' d' A' c' := by rw [← hw']; exact s6_at w (h i hi).1
  rw [hw']
  have keep : ∀ (E A : Option Addr) (u : Fx), FmS (Od Pz bl (g + 1) w) w u E A → FmS (Od Pz bl (g + 1) w') w' u E A := fun E A u hr =>
    (hr.kept (fun y hy => hblk y (by rcases hy with h | h <;> omega))).mono (fun y hy => by
      rcases hy with h | h
      · exact .inl h
      · exact .inr ⟨h.1, by rw [hsz]; exact h.2⟩)
  have keep2 : ∀ (E A : Option Addr) (u : Fx), FmS (Lb Pz bl) w u E A → FmS (Lb Pz bl) w' u E A := fun E A u hr =>
    hr.kept (fun y hy => hblk y (by omega))
  have hR2 : FmS (Od Pz bl (g + 1) w) w (fkd ks i) E' A' := hR.mono (fun y hy => by
    rcases hy with h | h
    · exact .inl h
    · exact .inr ⟨by omega, h.2⟩)
  refine ⟨fun j => if j = i then E' else ea j, fun j => if j = i then A' else ka j, fun j => if j = i then d' else ec j, fun j => if j = i then c' else kc j, fun j hj => ?_⟩
  obtain ⟨hc, fr, hr, ho⟩ := h j hj
  by_cases e : j = i
  · subst e
    simp only [if_pos]
    exact ⟨hat, fun r => (hfr _).trans (fr r), keep _ _ _ hR2, fun h => by omega⟩
  · simp only [if_neg e]
    obtain ⟨c0, c1, c2, c3, c4, c5⟩ := hc
    exact ⟨⟨(hne _ (by omega)).trans c0, (hne _ (by omega)).trans c1, (hne _ (by omega)).trans c2, (hne _ (by omega)).trans c3, (hne _ (by omega)).trans c4, (hne _ (by omega)).trans c5⟩, fun r => (hfr _).trans (fr r), keep _ _ _ hr, fun h => keep2 _ _ _ (ho (by omega))⟩
theorem FIn.done {bl : Nat} {t : Fx} {g i G : Nat} {w : World} (h : FIn Pz bl t.ks g i w) (hg : g < w.heap.size) (hG : G ≤ g) : RepFS (Od Pz bl G w) w (some ⟨g, 0, none⟩) t := by
  obtain ⟨ea, ka, ec, kc, h⟩ := h
  have hm : ∀ y, Od Pz bl (g + 1) w y → Od Pz bl G w y := fun y hy => by
    rcases hy with h | h
    · exact .inl h
    · exact .inr ⟨by omega, h.2⟩
  refine .mk _ t ka ea kc ec (fun _ => ⟨g, 0, rfl, .inr ⟨hG, hg⟩, fun j hj => ?_⟩) (fun j hj => (h j hj).2.2.1.1.mono hm) (fun j hj => (h j hj).2.2.1.2.mono hm)
  rw [Nat.zero_add]
  exact (h j hj).1
abbrev fZ : Array Value := #[.int .i64 0, .int .i64 0, .int .i64 0, .string ⟨#[]⟩, .slice none 0 0, .slice none 0 0]
/-- The blocks below bl, or from G up to K. -/
def Bk (Pz : Nat → Prop) (bl G K x : Nat) : Prop := (x < bl ∧ Pz x) ∨ (G ≤ x ∧ x < K)
/-- What lies while detached walks over the Kids: the term is detached, at E1. -/
structure FdS (Pz : Nat → Prop) (bl : Nat) (t : Fx) (E1 : Option Addr) (d1 K : Nat) (A2 : Option Addr) (c2 n : Nat) (w : World) (i : Nat) (wr : World) (kk : Int) : Prop where
  lf : Lq bl w wr
  hz : w.heap.size + 1 + 1 ≤ wr.heap.size
  hbl : bl < w.heap.size
  bb : Blk wr bl 3 #[.int .i64 kk]
  b0 : Blk wr w.heap.size 27 #[.int .i64 t.op, .int .i64 t.e.op, .int .i64 t.e.vr, .string t.e.nm, .slice E1 t.e.ks.length d1, .slice A2 n c2]
  b1 : Blk wr (w.heap.size + 1) 27 fZ
  hn : n = t.ks.length
  hK : K ≤ wr.heap.size
  tm : RepS (Bk Pz bl (w.heap.size + 1 + 1) K) wr E1 t.e
  row : 0 < n → ∃ g, A2 = some ⟨g, 0, none⟩ ∧ w.heap.size + 1 < g ∧ K ≤ g ∧ g < wr.heap.size ∧ FIn Pz bl t.ks g i wr
section
variable {bl : Nat} {t : Fx} {E1 A2 : Option Addr} {d1 K c2 n : Nat} {w wr : World} {i : Nat} {kk : Int}
theorem FdS.frm (h : FdS Pz bl t E1 d1 K A2 c2 n w i wr kk) {w' : World} {k' : Int} (hl : Lq bl wr w') (hb : Blk w' bl 3 #[.int .i64 k']) : FdS Pz bl t E1 d1 K A2 c2 n w i w' k' := by
  have hz := h.hz
  have hbl := h.hbl
  have hK := h.hK
  refine ⟨h.lf.trans hl, Nat.le_trans hz hl.size, hbl, hb, h.b0.frm hl (by omega), h.b1.frm hl (by omega), h.hn, Nat.le_trans hK hl.size, h.tm.kept (fun x hx => hl.block x (by rcases hx with h | h <;> omega) (by rcases hx with h | h <;> omega)), fun hp => ?_⟩
  obtain ⟨g, e, h1, h1', h2, h3⟩ := h.row hp
  exact ⟨g, e, h1, h1', Nat.lt_of_lt_of_le h2 hl.size, h3.keep hl h2 (by omega)⟩
theorem FdS.below (h : FdS Pz bl t E1 d1 K A2 c2 n w i wr kk) {w' : World} (hb : Below wr.heap.size wr w') : FdS Pz bl t E1 d1 K A2 c2 n w i w' kk := h.frm (Frm.of_below hb) (h.bb.below hb h.bb.lt)
theorem FdS.at (h : FdS Pz bl t E1 d1 K A2 c2 n w i wr kk) (hi : i < n) : ∃ g ea ec ka kc, A2 = some ⟨g, 0, none⟩ ∧ w.heap.size + 1 < g ∧ g < wr.heap.size ∧ FAt wr g (i * 6) (fkd t.ks i) ea ec ka kc ∧ (∀ r, wr.frozen? ⟨g, i * 6 + r, none⟩ = false) ∧ FmS (Lb Pz bl) wr (fkd t.ks i) ea ka := by
  obtain ⟨g, e, h1, _, h2, ea, ka, ec, kc, h3⟩ := h.row (by omega)
  obtain ⟨hc, fr, _, ho⟩ := h3 i (by have := h.hn; omega)
  exact ⟨g, ea i, ec i, ka i, kc i, e, h1, h2, hc, fr, ho (Nat.le_refl _)⟩
theorem FdS.step (h : FdS Pz bl t E1 d1 K A2 c2 n w i wr kk) (hi : i < n) {w4 : World} {E' A' : Option Addr} {d' c' : Nat} {k' : Int} (wx : World) (hx : Lq bl wr wx) (hl : Lq bl wx w4) (hb : Blk w4 bl 3 #[.int .i64 k']) (hR : FmS (Od Pz bl wx.heap.size w4) w4 (fkd t.ks i) E' A') (g : Nat) (hA : A2 = some ⟨g, 0, none⟩) :
    FdS Pz bl t E1 d1 K A2 c2 n w (i + 1) (S6 w4 g (i * 6) (.int .i64 (fkd t.ks i).op) (.int .i64 (fkd t.ks i).e.op) (.int .i64 (fkd t.ks i).e.vr) (.string (fkd t.ks i).e.nm) (.slice E' (fkd t.ks i).e.ks.length d') (.slice A' (fkd t.ks i).ks.length c')) k' := by
  have h' := h.frm (hx.trans hl) hb
  have hbl := h'.hbl
  have hz := h'.hz
  obtain ⟨g', e, g1, gK, g2, g3⟩ := h'.row (by omega)
  rw [hA] at e
  have e2 : g = g' := by simpa using e
  subst e2
  have hgx : g < wx.heap.size := by
    obtain ⟨g', e, _, _, g2, _⟩ := h.row (by omega)
    rw [hA] at e
    have e2 : g = g' := by simpa using e
    subst e2
    exact Nat.lt_of_lt_of_le g2 hx.size
  have hi2 : i < t.ks.length := by have := h.hn; omega
  refine ⟨lq_s6 h'.lf (by omega) _ _ _ _ _ _ _ _ _ _ _ _, by rw [set6_size]; exact hz, hbl, (set6_blk _ _ _ _ _ _ _ (by omega)).trans h'.bb, (set6_blk _ _ _ _ _ _ _ (by omega)).trans h'.b0, (set6_blk _ _ _ _ _ _ _ (by omega)).trans h'.b1, h'.hn, by rw [set6_size]; exact h'.hK, h'.tm.kept (fun x hx => set6_blk _ _ _ _ _ _ _ (by rcases hx with h | h <;> omega)), fun _ => ⟨g, hA, g1, gK, by rw [set6_size]; exact g2, g3.step hi2 (by omega) g2 (by omega) hR⟩⟩
end
end Go.Proofs.Ytnjkphopklbogaa
