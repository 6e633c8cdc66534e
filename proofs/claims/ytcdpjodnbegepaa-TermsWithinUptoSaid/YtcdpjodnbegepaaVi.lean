/- A typed term's value lies in its type; layer 30 (terms). -/
import Derived.Test.YtcdpjodnbegepaaVm
namespace Go.Proofs.Ytcdpjodnbegepaa
open Go.RowKit

/-- A value of a type. -/
def InT (y : Ty) (v : Int) : Prop := if y.b = true then Z1 v else y.lo ≤ v ∧ v ≤ y.hi
/-- The values of a state are in the ranges of the variables. -/
def RgS (vs : List Vr) (s : List Int) : Prop := s.length = vs.length ∧ ∀ i, i < vs.length → if (va vs i).b = true then Z1 (li s i) else (va vs i).lo ≤ li s i ∧ li s i ≤ (va vs i).hi
theorem spanv_in {lo hi v : Int} (h : (spanS lo hi).2 = 0) (h1 : lo ≤ v) (h2 : v ≤ hi) : InT (spanS lo hi).1 v ∧ -1048576 ≤ v ∧ v ≤ 1048576 := by
  unfold spanS at h ⊢
  split
  · rename_i g; rw [if_pos g] at h; have h3 : (2 : Int) = 0 := h; omega
  · refine ⟨?_, by omega, by omega⟩
    show (if false = true then _ else _)
    rw [if_neg (by simp)]
    exact ⟨h1, h2⟩
theorem mn_le {l : List Int} : ∀ k i, i ≤ k → mnN l k ≤ li l i
  | 0, i, h => by obtain rfl : i = 0 := Nat.le_zero.1 h; exact Int.le_refl _
  | k + 1, i, h => by
    have e : mnN l (k + 1) = if mnN l k ≤ li l (k + 1) then mnN l k else li l (k + 1) := rfl
    rw [e]
    rcases Nat.lt_or_ge k i with g | g
    · obtain rfl : i = k + 1 := by omega
      split <;> omega
    · have := mn_le (l := l) k i g
      split <;> omega
theorem mx_ge {l : List Int} : ∀ k i, i ≤ k → li l i ≤ mxN l k
  | 0, i, h => by obtain rfl : i = 0 := Nat.le_zero.1 h; exact Int.le_refl _
  | k + 1, i, h => by
    have e : mxN l (k + 1) = if li l (k + 1) ≤ mxN l k then mxN l k else li l (k + 1) := rfl
    rw [e]
    rcases Nat.lt_or_ge k i with g | g
    · obtain rfl : i = k + 1 := by omega
      split <;> omega
    · have := mx_ge (l := l) k i g
      split <;> omega
theorem lin (c y yl yh : Int) (h1 : yl ≤ y) (h2 : y ≤ yh) : (c * yl ≤ c * y ∨ c * yh ≤ c * y) ∧ (c * y ≤ c * yl ∨ c * y ≤ c * yh) := by
  rcases Int.le_total 0 c with hc | hc
  · exact ⟨.inl (Int.mul_le_mul_of_nonneg_left h1 hc), .inr (Int.mul_le_mul_of_nonneg_left h2 hc)⟩
  · exact ⟨.inr (Int.mul_le_mul_of_nonpos_left hc h2), .inl (Int.mul_le_mul_of_nonpos_left hc h1)⟩
theorem wmul {x y : Int} (hx : -1048576 ≤ x ∧ x ≤ 1048576) (hy : -1048576 ≤ y ∧ y ≤ 1048576) : wrap64 (x * y) = x * y := by
  have := mul_bd hx hy
  unfold wrap64; omega
theorem prod_in (a b : Ty) (ha : TyK a) (hb : TyK b) (x y : Int) (h1 : a.lo ≤ x) (h2 : x ≤ a.hi) (h3 : b.lo ≤ y) (h4 : y ≤ b.hi) : mnN (prods a b) 3 ≤ x * y ∧ x * y ≤ mxN (prods a b) 3 := by
  unfold TyK at ha hb
  have l1 := lin a.lo y b.lo b.hi h3 h4
  have l2 := lin a.hi y b.lo b.hi h3 h4
  have l3 := lin y x a.lo a.hi h1 h2
  rw [Int.mul_comm y x, Int.mul_comm y a.lo, Int.mul_comm y a.hi] at l3
  have m0 := mn_le (l := prods a b) 3 0 (by omega)
  have m1 := mn_le (l := prods a b) 3 1 (by omega)
  have m2 := mn_le (l := prods a b) 3 2 (by omega)
  have m3 := mn_le (l := prods a b) 3 3 (by omega)
  have x0 := mx_ge (l := prods a b) 3 0 (by omega)
  have x1 := mx_ge (l := prods a b) 3 1 (by omega)
  have x2 := mx_ge (l := prods a b) 3 2 (by omega)
  have x3 := mx_ge (l := prods a b) 3 3 (by omega)
  have e0 : li (prods a b) 0 = a.lo * b.lo := wmul (by omega) (by omega)
  have e1 : li (prods a b) 1 = a.lo * b.hi := wmul (by omega) (by omega)
  have e2 : li (prods a b) 2 = a.hi * b.lo := wmul (by omega) (by omega)
  have e3 : li (prods a b) 3 = a.hi * b.hi := wmul (by omega) (by omega)
  rw [e0] at m0 x0
  rw [e1] at m1 x1
  rw [e2] at m2 x2
  rw [e3] at m3 x3
  generalize a.lo * b.lo = p0 at *
  generalize a.lo * b.hi = p1 at *
  generalize a.hi * b.lo = p2 at *
  generalize a.hi * b.hi = p3 at *
  generalize x * y = p at *
  generalize a.lo * y = q0 at *
  generalize a.hi * y = q1 at *
  omega
theorem fdL_all {α : Type} {z : α} {nd : Ex → List α → α × Int} : ∀ {ks : List Ex}, (∀ k, k ∈ ks → (fd z nd k).2 = 0) → ∃ L, fdL z nd ks = ((L, z), 0) ∧ L.length = ks.length
  | [], _ => ⟨[], rfl, rfl⟩
  | t :: r, h => by
    obtain ⟨L, hL, hl⟩ := fdL_all (ks := r) (fun k hk => h k (List.mem_cons_of_mem _ hk))
    have g := h t (List.mem_cons_self ..)
    have e : fdL z nd (t :: r) = (((fd z nd t).1 :: (fdL z nd r).1.1, (fdL z nd r).1.2), (fdL z nd r).2) := if_pos g
    exact ⟨(fd z nd t).1 :: L, by rw [e, hL], by simp [hl]⟩
theorem add_ok {x : Int} (h : -1048576 ≤ x ∧ x ≤ 1048576) : withS (addF x 0).1 (addF x 0).2 = (x, 0) := by
  unfold addF
  rw [Int.add_zero, if_pos (by omega)]
  rfl
theorem with_ok {x : Int} {p : Int × Bool} (hp : p = if -9007199254740992 ≤ x ∧ x ≤ 9007199254740992 then (x, true) else (0, false)) (h : -1048576 ≤ x ∧ x ≤ 1048576) : withS p.1 p.2 = (x, 0) := by
  rw [hp, if_pos (by omega)]
  rfl
theorem mem_kd {l : List Ex} {k : Ex} (h : k ∈ l) : ∃ i, i < l.length ∧ kd l i = k := by
  obtain ⟨i, hi, e⟩ := List.getElem_of_mem h
  exact ⟨i, hi, by unfold kd; simp [List.getD, List.getElem?_eq_getElem hi, e]⟩
theorem InT.b {y : Ty} {v : Int} (h : InT y v) (hb : y.b = true) : Z1 v := by unfold InT at h; rwa [if_pos hb] at h
theorem InT.r {y : Ty} {v : Int} (h : InT y v) (hb : y.b = false) : y.lo ≤ v ∧ v ≤ y.hi := by unfold InT at h; rwa [if_neg (by simp [hb])] at h
theorem inT_tyT {v : Int} (h : Z1 v) : InT tyT v := by unfold InT; rw [if_pos (show tyT.b = true from rfl)]; exact h
theorem li_def {s : List Int} {vs : List Vr} {i : Nat} (h : RgS vs s) (hi : i < vs.length) : if (va vs i).b = true then Z1 (li s i) else (va vs i).lo ≤ li s i ∧ li s i ≤ (va vs i).hi := h.2 i hi
set_option maxHeartbeats 1000000 in
/-- A typed term has a value, and it lies in the type. -/
theorem val_in {vs : List Vr} {s n : List Int} (hs : RgS vs s) (hn : RgS vs n) : ∀ (N : Nat) t, t.sz ≤ N → okE vs t → (fd (0 : Int) (valN vs s n) t).2 = 0 ∧ InT (fd ty0 (nodeT vs true) t).1 (fd (0 : Int) (valN vs s n) t).1 := by
  intro N
  induction N with
  | zero => intro t h; have := sz_eq t; omega
  | succ N ih =>
    intro t ht hok
    have hkid : ∀ i, i < t.ks.length → (fd (0 : Int) (valN vs s n) (kd t.ks i)).2 = 0 ∧ InT (fd ty0 (nodeT vs true) (kd t.ks i)).1 (fd (0 : Int) (valN vs s n) (kd t.ks i)).1 := fun i hi =>
      ih _ (by have := kd_sz hi; have := sz_eq t; omega) (hok.kid _ (kd_mem hi))
    obtain ⟨L, hL, hlen⟩ := fdL_all (z := (0 : Int)) (nd := valN vs s n) (ks := t.ks) (fun k hk => by
      obtain ⟨i, hi, rfl⟩ := mem_kd hk
      exact (hkid i hi).1)
    have hf : fd (0 : Int) (valN vs s n) t = valN vs s n t L := by rw [fd_eq, hL, if_pos rfl]
    obtain ⟨T, hT, hfT, hT0, hTl⟩ := hok.node
    have hin : ∀ i, i < t.ks.length → InT (ty T i) (li L i) := fun i hi => by rw [ty_at hT hi, li_at hL hi]; exact (hkid i hi).2
    have hTK : ∀ i, i < t.ks.length → TyK (ty T i) := fun i hi => by
      rw [ty_at hT hi]
      have hk := (hok.kid _ (kd_mem hi))
      exact fd_pk (z := ty0) (nd := nodeT vs true) (ok := Good) (pk := TyK) (fun t h k hk => h.kid hk) (fun t l _ _ _ _ => node_k vs true t l) _ hk.1 hk.2
    rw [hf, hfT]
    have hN := hok.1.node
    have hsn : (if t.op = 4 then n else s).length = vs.length := by split; exact hn.1; exact hs.1
    have hrg : RgS vs (if t.op = 4 then n else s) := by split; exact hn; exact hs
    unfold valN
    rw [if_neg (by simp [hsn])]
    by_cases g2 : t.op = 3 ∨ t.op = 4
    · rw [if_pos g2]
      unfold nodeT at hT0 ⊢
      rw [if_pos g2] at hT0 ⊢
      unfold varT at hT0 ⊢
      cases hi : idxN t.nm vs with
      | none => rw [hi] at hT0; have h3 : (12 : Int) = 0 := hT0; omega
      | some i =>
        rw [hi] at hT0
        have hT1 : (if t.op = 4 ∧ true = false then (ty0, (24 : Int)) else vspan (va vs i)).2 = 0 := hT0
        have e0 : ∀ (A B : Ty × Int), (if t.op = 4 ∧ true = false then A else B) = B := fun A B => if_neg (by simp)
        rw [e0] at hT1
        show (vvS (va vs i) (li (if t.op = 4 then n else s) i)).2 = 0 ∧ InT (if t.op = 4 ∧ true = false then (ty0, (24 : Int)) else vspan (va vs i)).1 (vvS (va vs i) (li (if t.op = 4 then n else s) i)).1
        rw [e0]
        have hr := hrg.2 i (idxN_lt hi)
        generalize li (if t.op = 4 then n else s) i = x at *
        unfold vspan at hT1 ⊢
        unfold vvS
        by_cases gb : (va vs i).b = true
        · rw [if_pos gb, if_pos gb]
          exact ⟨rfl, inT_tyT (truth_z _)⟩
        · rw [if_neg gb] at hT1 hr
          rw [if_neg gb, if_neg gb]
          obtain ⟨h1, h2⟩ := spanv_in hT1 hr.1 hr.2
          rw [add_ok h2]
          exact ⟨rfl, h1⟩
    rw [if_neg g2]
    unfold nodeT at hT0 ⊢
    rw [if_neg g2] at hT0 ⊢
    have hsu : suitS t.op T = true := by
      have h0 := hok.node
      cases g : suitS t.op T with
      | true => rfl
      | false => unfold tyOf at hT0; rw [g, if_pos rfl] at hT0; have h3 : (13 : Int) = 0 := hT0; omega
    by_cases o17 : t.op = 17
    · rw [if_pos o17]
      have hl2 : t.ks.length = 2 := by
        obtain ⟨_, _, _, _, _, _, h1, h2⟩ := hN
        unfold kidL at h1
        unfold kidM at h2
        (repeat' split at h1) <;> (repeat' split at h2) <;> omega
      obtain ⟨m1, m2, m3⟩ := mod_at hs.1 hok o17 hL
      unfold tyOf at hT0 ⊢
      rw [hsu, if_neg (by simp), if_neg (by omega), if_neg (by omega), if_pos o17] at hT0 ⊢
      by_cases g3 : (kd t.ks 1).op = 1 ∧ 0 < (kd t.ks 1).vr
      · rw [if_pos g3] at hT0 ⊢
        have e1 := Int.emod_nonneg ((li L 0).tmod (li L 1) + li L 1) (show li L 1 ≠ 0 by omega)
        have e2 := Int.emod_lt_of_pos ((li L 0).tmod (li L 1) + li L 1) m2
        exact ⟨rfl, (spanv_in hT0 (by show 0 ≤ modS _ _; unfold modS; exact e1) (by show modS _ _ ≤ _; unfold modS; omega)).1⟩
      · rw [if_neg g3] at hT0; have h3 : (2 : Int) = 0 := hT0; omega
    rw [if_neg o17]
    unfold valS
    by_cases o12 : t.op = 1 ∨ t.op = 2
    · rw [if_pos o12]
      unfold tyOf at hT0 ⊢
      rw [hsu, if_neg (by simp)] at hT0 ⊢
      by_cases o1 : t.op = 1
      · rw [if_pos o1] at hT0 ⊢
        exact ⟨rfl, (spanv_in hT0 (Int.le_refl _) (Int.le_refl _)).1⟩
      · rw [if_neg o1, if_neg (by omega), if_neg (by omega), if_neg (by omega)]
        refine ⟨rfl, inT_tyT ?_⟩
        obtain ⟨_, _, h1, h2, _⟩ := hN
        unfold numL at h1
        unfold numM at h2
        rw [if_neg o1] at h1 h2
        rw [if_pos (by omega)] at h2
        show Z1 t.vr
        unfold Z1; omega
    rw [if_neg o12]
    by_cases o14 : t.op = 14 ∨ t.op = 15 ∨ t.op = 16
    · rw [if_pos o14]
      have hl2 : T.length = 2 := by
        rw [hTl]
        obtain ⟨_, _, _, _, _, _, h1, h2⟩ := hN
        unfold kidL at h1
        unfold kidM at h2
        (repeat' split at h1) <;> (repeat' split at h2) <;> omega
      match T, hl2 with
      | [a, b], _ =>
        have k0 : TyK a := hTK 0 (by omega)
        have k1 : TyK b := hTK 1 (by omega)
        have i0 : InT a (li L 0) := hin 0 (by omega)
        have i1 : InT b (li L 1) := hin 1 (by omega)
        have hab : (a.b || b.b) = false := by
          cases g : (a.b || b.b) with
          | false => rfl
          | true =>
            have h3 : (tyOf t [a, b]).2 = 13 := by
              rcases o14 with o | o | o
              · rw [join_add o k0 k1, if_pos g]
              · rw [join_sub o k0 k1, if_pos g]
              · rw [join_mul o k0 k1, if_pos g]
            omega
        simp only [Bool.or_eq_false_iff] at hab
        have r0 := i0.r hab.1
        have r1 := i1.r hab.2
        have hb' : ¬ (a.b || b.b) = true := by simp [hab.1, hab.2]
        have n0 : -1048576 ≤ li L 0 ∧ li L 0 ≤ 1048576 := by unfold TyK at k0; omega
        have n1 : -1048576 ≤ li L 1 ∧ li L 1 ≤ 1048576 := by unfold TyK at k1; omega
        rcases o14 with o | o | o
        · rw [join_add o k0 k1, if_neg hb'] at hT0 ⊢
          obtain ⟨h1, h2⟩ := spanv_in (v := li L 0 + li L 1) hT0 (by omega) (by omega)
          have e : withS (compS t.op (li L 0) (li L 1)).1 (compS t.op (li L 0) (li L 1)).2 = (li L 0 + li L 1, 0) := with_ok (by unfold compS; rw [if_pos o]; rfl) h2
          rw [e]
          exact ⟨rfl, h1⟩
        · rw [join_sub o k0 k1, if_neg hb'] at hT0 ⊢
          obtain ⟨h1, h2⟩ := spanv_in (v := li L 0 - li L 1) hT0 (by omega) (by omega)
          have ew : IntKind.i64.wrap (-li L 1) = -li L 1 := by rw [IntKind.wrap_i64]; omega
          have e : withS (compS t.op (li L 0) (li L 1)).1 (compS t.op (li L 0) (li L 1)).2 = (li L 0 - li L 1, 0) := with_ok (by unfold compS addF; rw [if_neg (by omega), if_pos o, ew, ← Int.sub_eq_add_neg]) h2
          rw [e]
          exact ⟨rfl, h1⟩
        · rw [join_mul o k0 k1, if_neg hb'] at hT0 ⊢
          have hp := prod_in a b k0 k1 (li L 0) (li L 1) r0.1 r0.2 r1.1 r1.2
          obtain ⟨h1, h2⟩ := spanv_in (v := li L 0 * li L 1) hT0 hp.1 hp.2
          have e : withS (compS t.op (li L 0) (li L 1)).1 (compS t.op (li L 0) (li L 1)).2 = (li L 0 * li L 1, 0) := with_ok (by unfold compS; rw [if_neg (by omega), if_neg (by omega)]; rfl) h2
          rw [e]
          exact ⟨rfl, h1⟩
    rw [if_neg o14]
    by_cases o18 : t.op = 18
    · rw [if_pos o18]
      have hl3 : T.length = 3 := by
        rw [hTl]
        obtain ⟨_, _, _, _, _, _, h1, h2⟩ := hN
        unfold kidL at h1
        unfold kidM at h2
        (repeat' split at h1) <;> (repeat' split at h2) <;> omega
      match T, hl3 with
      | [a, b, c], _ =>
        have i1 : InT b (li L 1) := hin 1 (by omega)
        have i2 : InT c (li L 2) := hin 2 (by omega)
        have k1 : TyK b := hTK 1 (by omega)
        have k2 : TyK c := hTK 2 (by omega)
        rw [join_if o18] at hT0 ⊢
        by_cases g : (!a.b || b.b != c.b) = true
        · rw [if_pos g] at hT0; have h3 : (13 : Int) = 0 := hT0; omega
        · rw [if_neg g] at hT0 ⊢
          simp only [Bool.or_eq_true, bne_iff_ne, ne_eq, not_or, Decidable.not_not] at g
          refine ⟨rfl, ?_⟩
          show InT _ (if li L 0 = 0 then li L 2 else li L 1)
          by_cases g4 : b.b = true
          · rw [if_pos g4]
            have z1 := i1.b g4
            have z2 := i2.b (g.2 ▸ g4)
            split
            · exact inT_tyT z2
            · exact inT_tyT z1
          · rw [if_neg g4] at hT0 ⊢
            have gb : b.b = false := by simpa using g4
            have r1 := i1.r gb
            have r2 := i2.r (g.2 ▸ gb)
            split
            · exact (spanv_in hT0 (by omega) (by omega)).1
            · exact (spanv_in hT0 (by omega) (by omega)).1
    · rw [if_neg o18]
      unfold tyOf
      rw [hsu, if_neg (by simp), if_neg (by omega), if_neg o14, if_neg o17, if_neg o18]
      exact ⟨rfl, inT_tyT (truth_z _)⟩
end Go.Proofs.Ytcdpjodnbegepaa
