/- Values of typed terms: truths are 0 or 1; layer 30 (terms). -/
import Derived.Test.YtcdpjodnbegepaaFnT
import Derived.Test.YtcdpjodnbegepaaJt
namespace Go.Proofs.Ytcdpjodnbegepaa
open Go.RowKit

def Z1 (y : Int) : Prop := y = 0 ∨ y = 1
theorem truth_z (b : Bool) : Z1 (truthS b) := by cases b <;> simp [Z1, truthS]
theorem span_b (lo hi : Int) : (spanS lo hi).1.b = false := by
  unfold spanS
  split <;> rfl
/-- What a typed node's type says of its operator. -/
theorem okE.node {vs : List Vr} {t : Ex} (h : okE vs t) : ∃ T : List Ty, fdL ty0 (nodeT vs true) t.ks = ((T, ty0), 0) ∧ fd ty0 (nodeT vs true) t = nodeT vs true t T ∧ (nodeT vs true t T).2 = 0 ∧ T.length = t.ks.length := by
  have h0 := fd_kids h.2
  have hl := (fdL_pk (z := ty0) (nd := nodeT vs true) (ok := fun _ => True) (pk := fun _ => True) (fun _ _ _ _ => trivial) (fun _ _ _ _ _ _ => trivial) t.ks (fun _ _ => trivial) h0).1
  have he : fdL ty0 (nodeT vs true) t.ks = (((fdL ty0 (nodeT vs true) t.ks).1.1, ty0), 0) := by
    have hz : ∀ ks : List Ex, (fdL ty0 (nodeT vs true) ks).2 = 0 → (fdL ty0 (nodeT vs true) ks).1.2 = ty0 := by
      intro ks
      induction ks with
      | nil => intro _; rfl
      | cons a r ih =>
        intro h
        by_cases g : (fd ty0 (nodeT vs true) a).2 = 0
        · have e : fdL ty0 (nodeT vs true) (a :: r) = (((fd ty0 (nodeT vs true) a).1 :: (fdL ty0 (nodeT vs true) r).1.1, (fdL ty0 (nodeT vs true) r).1.2), (fdL ty0 (nodeT vs true) r).2) := if_pos g
          rw [e] at h ⊢
          exact ih h
        · have e : fdL ty0 (nodeT vs true) (a :: r) = (([], (fd ty0 (nodeT vs true) a).1), (fd ty0 (nodeT vs true) a).2) := if_neg g
          rw [e] at h
          exact absurd h g
    refine Prod.ext (Prod.ext rfl (hz _ h0)) h0
  refine ⟨_, he, fd_node h.2, ?_, hl⟩
  rw [← fd_node h.2]; exact h.2
theorem ty_at {vs : List Vr} {ks : List Ex} {T : List Ty} (h : fdL ty0 (nodeT vs true) ks = ((T, ty0), 0)) {i : Nat} (hi : i < ks.length) : ty T i = (fd ty0 (nodeT vs true) (kd ks i)).1 := by
  have := fdL_at h i hi
  unfold ty; simp [List.getD, this]
theorem li_at {nd : Ex → List Int → Int × Int} {ks : List Ex} {L : List Int} (h : fdL (0 : Int) nd ks = ((L, (0 : Int)), 0)) {i : Nat} (hi : i < ks.length) : li L i = (fd (0 : Int) nd (kd ks i)).1 := by
  have := fdL_at h i hi
  unfold li; simp [List.getD, this]
theorem suit_of {vs : List Vr} {t : Ex} {T : List Ty} (h : (nodeT vs true t T).2 = 0) (ho : t.op ≠ 3 ∧ t.op ≠ 4) : suitS t.op T = true := by
  unfold nodeT at h
  rw [if_neg (by omega)] at h
  unfold tyOf at h
  cases g : suitS t.op T with
  | true => rfl
  | false => rw [g, if_pos rfl] at h; have h3 : (13 : Int) = 0 := h; omega
theorem trC_get {l : List Ty} (h : trC l = l.length) {k : Nat} (hk : k < l.length) : (ty l k).b = true := by
  cases g : (ty l k).b with
  | true => rfl
  | false => have := trC_not hk g; omega
/-- The Kids of a connective are truths; a choice's first is, and its others if it is one. -/
theorem okE.kidsB {vs : List Vr} {t : Ex} (h : okE vs t) {i : Nat} (hi : i < t.ks.length) (ho : (5 ≤ t.op ∧ t.op ≤ 9) ∨ (t.op = 18 ∧ i = 0)) : (fd ty0 (nodeT vs true) (kd t.ks i)).1.b = true := by
  obtain ⟨T, hT, _, h0, hl⟩ := h.node
  have hs := suit_of h0 (by omega)
  rw [← ty_at hT hi]
  unfold suitS at hs
  rcases ho with ho | ⟨ho, rfl⟩
  · rw [if_neg (by omega), if_neg (by omega), if_neg (by omega)] at hs
    exact trC_get (by simpa using hs) (by omega)
  · rw [if_neg (by omega), if_pos ho] at hs
    simp only [Bool.and_eq_true] at hs
    exact hs.1
theorem okE.if_b {vs : List Vr} {t : Ex} (h : okE vs t) (ho : t.op = 18) (hb : (fd ty0 (nodeT vs true) t).1.b = true) : t.ks.length = 3 ∧ (fd ty0 (nodeT vs true) (kd t.ks 1)).1.b = true ∧ (fd ty0 (nodeT vs true) (kd t.ks 2)).1.b = true := by
  have hk : t.ks.length = 3 := by
    obtain ⟨_, _, _, _, _, _, h1, h2⟩ := h.1.node
    unfold kidL at h1
    unfold kidM at h2
    (repeat' split at h1) <;> (repeat' split at h2) <;> omega
  obtain ⟨T, hT, hf, h0, hl⟩ := h.node
  have hs := suit_of h0 (by omega)
  have hl3 : T.length = 3 := by omega
  rw [hf] at hb
  unfold nodeT at hb
  rw [if_neg (by omega)] at hb
  match T, hl3 with
  | [a, b, c], _ =>
    rw [join_if ho] at hb
    have e1 := ty_at hT (by omega : 1 < t.ks.length)
    have e2 := ty_at hT (by omega : 2 < t.ks.length)
    rw [← e1, ← e2]
    show t.ks.length = 3 ∧ b.b = true ∧ c.b = true
    by_cases g : (!a.b || b.b != c.b) = true
    · rw [if_pos g] at hb; cases hb
    · rw [if_neg g] at hb
      by_cases g2 : b.b = true
      · refine ⟨hk, g2, ?_⟩
        simp only [Bool.or_eq_true, bne_iff_ne, ne_eq, not_or, Decidable.not_not] at g
        rw [← g.2]; exact g2
      · rw [if_neg g2, span_b] at hb; cases hb
theorem val_node {nd : Ex → List Int → Int × Int} {t : Ex} (h : (fd (0 : Int) nd t).2 = 0) : ∃ L, fdL (0 : Int) nd t.ks = ((L, (0 : Int)), 0) ∧ fd (0 : Int) nd t = nd t L ∧ L.length = t.ks.length := by
  have h0 := fd_kids h
  have hl := (fdL_pk (z := (0 : Int)) (nd := nd) (ok := fun _ => True) (pk := fun _ => True) (fun _ _ _ _ => trivial) (fun _ _ _ _ _ _ => trivial) t.ks (fun _ _ => trivial) h0).1
  have hz : ∀ ks : List Ex, (fdL (0 : Int) nd ks).2 = 0 → (fdL (0 : Int) nd ks).1.2 = 0 := by
    intro ks
    induction ks with
    | nil => intro _; rfl
    | cons a r ih =>
      intro h
      by_cases g : (fd (0 : Int) nd a).2 = 0
      · have e : fdL (0 : Int) nd (a :: r) = (((fd (0 : Int) nd a).1 :: (fdL (0 : Int) nd r).1.1, (fdL (0 : Int) nd r).1.2), (fdL (0 : Int) nd r).2) := if_pos g
        rw [e] at h ⊢
        exact ih h
      · have e : fdL (0 : Int) nd (a :: r) = (([], (fd (0 : Int) nd a).1), (fd (0 : Int) nd a).2) := if_neg g
        rw [e] at h
        exact absurd h g
  exact ⟨_, Prod.ext (Prod.ext rfl (hz _ h0)) h0, fd_node h, hl⟩
/-- A typed truth's value is 0 or 1. -/
theorem val_01 {vs : List Vr} {s n : List Int} (_hs : s.length = vs.length) : ∀ (N : Nat) t, t.sz ≤ N → okE vs t → (fd ty0 (nodeT vs true) t).1.b = true → (fd (0 : Int) (valN vs s n) t).2 = 0 → Z1 (fd (0 : Int) (valN vs s n) t).1 := by
  intro N
  induction N with
  | zero => intro t h; have := sz_eq t; omega
  | succ N ih =>
    intro t ht hok hb h0
    obtain ⟨L, hL, hf, hlen⟩ := val_node h0
    have hkid : ∀ i, i < t.ks.length → (fd ty0 (nodeT vs true) (kd t.ks i)).1.b = true → Z1 (li L i) := fun i hi hbi => by
      have hz := fdL_zero (by rw [hL]) _ (kd_mem hi)
      rw [li_at hL hi]
      exact ih _ (by have := kd_sz hi; omega) (hok.kid _ (kd_mem hi)) hbi hz
    rw [hf] at h0 ⊢
    have hN := hok.1.node
    obtain ⟨T, hT, hfT, hT0, hTl⟩ := hok.node
    rw [hfT] at hb
    unfold valN at h0 ⊢
    by_cases g : (if t.op = 4 then n else s).length ≠ vs.length
    · rw [if_pos g] at h0; have h3 : (21 : Int) = 0 := h0; omega
    rw [if_neg g] at h0 ⊢
    by_cases g2 : t.op = 3 ∨ t.op = 4
    · rw [if_pos g2] at h0 ⊢
      unfold nodeT at hb
      rw [if_pos g2] at hb
      unfold varT at hb
      cases hi : idxN t.nm vs with
      | none => exact .inl rfl
      | some i =>
        rw [hi] at hb h0
        have hb2 : (if t.op = 4 ∧ true = false then (ty0, (24 : Int)) else vspan (va vs i)).1.b = true := hb
        rw [if_neg (by simp)] at hb2
        show Z1 (vvS (va vs i) _).1
        unfold vspan at hb2
        unfold vvS
        by_cases gb : (va vs i).b = true
        · rw [if_pos gb]; exact truth_z _
        · rw [if_neg gb, span_b] at hb2; cases hb2
    rw [if_neg g2] at h0 ⊢
    unfold nodeT at hb
    rw [if_neg g2] at hb
    have hsu := suit_of hT0 (by omega)
    unfold tyOf at hb
    rw [hsu, if_neg (by simp)] at hb
    by_cases o1 : t.op = 1
    · rw [if_pos o1, span_b] at hb; cases hb
    rw [if_neg o1] at hb
    by_cases o14 : t.op = 14 ∨ t.op = 15 ∨ t.op = 16
    · rw [if_pos o14] at hb; unfold reachS at hb; rw [span_b] at hb; cases hb
    rw [if_neg o14] at hb
    by_cases o17 : t.op = 17
    · rw [if_pos o17] at hb
      by_cases g3 : (kd t.ks 1).op = 1 ∧ 0 < (kd t.ks 1).vr
      · rw [if_pos g3, span_b] at hb; cases hb
      · rw [if_neg g3] at hb; cases hb
    rw [if_neg o17]
    unfold valS
    by_cases o2 : t.op = 2
    · rw [if_pos (.inr o2)]
      obtain ⟨_, _, h1, h2, _⟩ := hN
      unfold numL at h1
      unfold numM at h2
      rw [if_neg (by omega)] at h1 h2
      rw [if_pos o2] at h2
      show Z1 t.vr
      unfold Z1; omega
    rw [if_neg (by omega), if_neg o14]
    by_cases o18 : t.op = 18
    · rw [if_pos o18]
      have hb18 : (fd ty0 (nodeT vs true) t).1.b = true := by
        rw [hfT]; unfold nodeT; rw [if_neg g2]; unfold tyOf; rw [hsu, if_neg (by simp), if_neg o1, if_neg o14]; exact hb
      obtain ⟨hk3, b1, b2⟩ := hok.if_b o18 hb18
      show Z1 (if li L 0 = 0 then li L 2 else li L 1)
      split
      · exact hkid 2 (by omega) b2
      · exact hkid 1 (by omega) b1
    · rw [if_neg o18]; exact truth_z _
/-- The values of a connective's Kids are 0 or 1. -/
theorem kids_01 {vs : List Vr} {s n : List Int} {t : Ex} {L : List Int} (hs : s.length = vs.length) (hok : okE vs t) (hL : fdL (0 : Int) (valN vs s n) t.ks = ((L, (0 : Int)), 0)) {i : Nat} (hi : i < t.ks.length) (ho : (5 ≤ t.op ∧ t.op ≤ 9) ∨ (t.op = 18 ∧ i = 0)) : Z1 (li L i) := by
  rw [li_at hL hi]
  exact val_01 hs _ _ (Nat.le_refl _) (hok.kid _ (kd_mem hi)) (hok.kidsB hi ho) (fdL_zero (by rw [hL]) _ (kd_mem hi))
def smL : List Int → Int
  | [] => 0
  | a :: r => a + smL r
theorem smL_snoc (l : List Int) (y : Int) : smL (l ++ [y]) = smL l + y := by
  induction l with
  | nil => simp [smL]
  | cons a r ih => simp only [List.cons_append, smL, ih]; omega
theorem smL_bd : ∀ {l : List Int}, (∀ i, i < l.length → Z1 (li l i)) → 0 ≤ smL l ∧ smL l ≤ l.length
  | [], _ => by simp [smL]
  | a :: r, h => by
    have h0 : Z1 a := h 0 (by simp)
    have := smL_bd (l := r) (fun i hi => by have := h (i + 1) (by simpa using hi); simpa [li] using this)
    unfold Z1 at h0
    simp only [smL, List.length_cons]
    omega
theorem smL_all : ∀ {l : List Int}, (∀ i, i < l.length → Z1 (li l i)) → (smL l = l.length ↔ ∀ i, i < l.length → li l i = 1)
  | [], _ => by simp [smL]
  | a :: r, h => by
    have h0 : Z1 a := h 0 (by simp)
    have hr : ∀ i, i < r.length → Z1 (li r i) := fun i hi => by have := h (i + 1) (by simpa using hi); simpa [li] using this
    have h1 := smL_all hr
    have h2 := smL_bd hr
    unfold Z1 at h0
    simp only [smL, List.length_cons]
    constructor
    · intro e i hi
      have ea : a = 1 := by omega
      have er : smL r = r.length := by omega
      cases i with
      | zero => show a = 1; exact ea
      | succ i => have := h1.1 er i (by simpa using hi); simpa [li] using this
    · intro e
      have ea : a = 1 := e 0 (by simp)
      have er := h1.2 (fun i hi => by have := e (i + 1) (by simpa using hi); simpa [li] using this)
      omega
theorem smL_pos : ∀ {l : List Int}, (∀ i, i < l.length → Z1 (li l i)) → (0 < smL l ↔ ∃ i, i < l.length ∧ li l i = 1)
  | [], _ => by simp [smL]
  | a :: r, h => by
    have h0 : Z1 a := h 0 (by simp)
    have hr : ∀ i, i < r.length → Z1 (li r i) := fun i hi => by have := h (i + 1) (by simpa using hi); simpa [li] using this
    have h1 := smL_pos hr
    have h2 := smL_bd hr
    unfold Z1 at h0
    simp only [smL, List.length_cons]
    constructor
    · intro e
      by_cases ea : a = 1
      · exact ⟨0, by simp, ea⟩
      · obtain ⟨i, hi, hi2⟩ := h1.1 (by omega)
        exact ⟨i + 1, by simpa using hi, by simpa [li] using hi2⟩
    · rintro ⟨i, hi, hi2⟩
      cases i with
      | zero => have : a = 1 := hi2; omega
      | succ i =>
        have : 0 < smL r := h1.2 ⟨i, by simpa using hi, by simpa [li] using hi2⟩
        omega
theorem mn_one {l : List Int} : ∀ k, (∀ i, i ≤ k → Z1 (li l i)) → (Z1 (mnN l k) ∧ (mnN l k = 1 ↔ ∀ i, i ≤ k → li l i = 1))
  | 0, h => ⟨h 0 (by omega), fun e i hi => (by have h0 : i = 0 := (by omega); subst h0; exact e), fun e => e 0 (by omega)⟩
  | k + 1, h => by
    obtain ⟨z, hk⟩ := mn_one k (fun i hi => h i (by omega))
    have h1 := h (k + 1) (by omega)
    have e : mnN l (k + 1) = if mnN l k ≤ li l (k + 1) then mnN l k else li l (k + 1) := rfl
    unfold Z1 at z h1 ⊢
    rw [e]
    refine ⟨by split <;> omega, fun q i hi => ?_, fun q => ?_⟩
    · by_cases g : i = k + 1
      · subst g; split at q <;> omega
      · exact hk.1 (by split at q <;> omega) i (by omega)
    · have a1 := hk.2 (fun i hi => q i (by omega))
      have a2 := q (k + 1) (by omega)
      split <;> omega
theorem mx_one {l : List Int} : ∀ k, (∀ i, i ≤ k → Z1 (li l i)) → (Z1 (mxN l k) ∧ (mxN l k = 1 ↔ ∃ i, i ≤ k ∧ li l i = 1))
  | 0, h => ⟨h 0 (by omega), fun e => ⟨0, by omega, e⟩, fun ⟨i, hi, e⟩ => (by have h0 : i = 0 := (by omega); subst h0; exact e)⟩
  | k + 1, h => by
    obtain ⟨z, hk⟩ := mx_one k (fun i hi => h i (by omega))
    have h1 := h (k + 1) (by omega)
    have e : mxN l (k + 1) = if li l (k + 1) ≤ mxN l k then mxN l k else li l (k + 1) := rfl
    unfold Z1 at z h1 ⊢
    rw [e]
    refine ⟨by split <;> omega, fun q => ?_, fun ⟨i, hi, q⟩ => ?_⟩
    · by_cases g : li l (k + 1) = 1
      · exact ⟨k + 1, by omega, g⟩
      · obtain ⟨i, hi, e2⟩ := hk.1 (by split at q <;> omega)
        exact ⟨i, by omega, e2⟩
    · by_cases g : i = k + 1
      · subst g; split <;> omega
      · have := hk.2 ⟨i, by omega, q⟩
        split <;> omega
theorem and_is {l : List Int} (h : ∀ i, i < l.length → Z1 (li l i)) (hp : 0 < l.length) : (smL l == (l.length : Int)) = (mnN l (l.length - 1) == 1) := by
  obtain ⟨_, h1⟩ := mn_one (l := l) (l.length - 1) (fun i hi => h i (by omega))
  have h2 := smL_all h
  rw [Bool.eq_iff_iff, beq_iff_eq, beq_iff_eq, h1, h2]
  exact ⟨fun q i hi => q i (by omega), fun q i hi => q i (by omega)⟩
theorem or_is {l : List Int} (h : ∀ i, i < l.length → Z1 (li l i)) (hp : 0 < l.length) : decide (0 < smL l) = (mxN l (l.length - 1) == 1) := by
  obtain ⟨_, h1⟩ := mx_one (l := l) (l.length - 1) (fun i hi => h i (by omega))
  have h2 := smL_pos h
  rw [Bool.eq_iff_iff, beq_iff_eq, decide_eq_true_eq, h1, h2]
  exact ⟨fun ⟨i, hi, q⟩ => ⟨i, by omega, q⟩, fun ⟨i, hi, q⟩ => ⟨i, by omega, q⟩⟩
theorem mul_far {x y : Int} (hx0 : x ≠ 0) : (9007199254740992 / (x.natAbs : Int) < (y.natAbs : Int)) ↔ ¬ (-9007199254740992 ≤ x * y ∧ x * y ≤ 9007199254740992) := by
  have hp : 0 < x.natAbs := Int.natAbs_pos.2 hx0
  have h1 : (x * y).natAbs = x.natAbs * y.natAbs := Int.natAbs_mul x y
  have h2 : (9007199254740992 / (x.natAbs : Int) < (y.natAbs : Int)) ↔ 9007199254740992 / x.natAbs < y.natAbs := by
    rw [show (9007199254740992 : Int) / (x.natAbs : Int) = ((9007199254740992 / x.natAbs : Nat) : Int) from (by simp)]; omega
  rw [h2, Nat.div_lt_iff_lt_mul hp, Nat.mul_comm, ← h1]
  omega
end Go.Proofs.Ytcdpjodnbegepaa
