/- A name replaced by its value keeps a typed term typed, its kind and its value; layer 30 (terms). -/
import Derived.Test.YtcdpjodnbegepaaVi
import Derived.Test.YtcdpjodnbegepaaPt1
namespace Go.Proofs.Ytcdpjodnbegepaa
open Go.RowKit

/-- The type y' says no less than y. -/
def SubT (y' y : Ty) : Prop := y'.b = y.b ∧ (y.b = false → y.lo ≤ y'.lo ∧ y'.lo ≤ y'.hi ∧ y'.hi ≤ y.hi)
theorem SubT.refl {y : Ty} (h : TyK y) : SubT y y := ⟨rfl, fun _ => ⟨Int.le_refl _, h.2.1, Int.le_refl _⟩⟩
theorem span_sub {lo hi lo' hi' : Int} (h : (spanS lo hi).2 = 0) (h1 : lo ≤ lo') (h2 : lo' ≤ hi') (h3 : hi' ≤ hi) : (spanS lo' hi').2 = 0 ∧ SubT (spanS lo' hi').1 (spanS lo hi).1 := by
  unfold spanS at h ⊢
  split at h
  · have h4 : (2 : Int) = 0 := h; omega
  · rename_i g
    rw [if_neg (by omega), if_neg g]
    exact ⟨rfl, rfl, fun _ => ⟨h1, h2, h3⟩⟩
theorem mn_mem {l : List Int} : ∀ k, ∃ i, i ≤ k ∧ mnN l k = li l i
  | 0 => ⟨0, Nat.le_refl _, rfl⟩
  | k + 1 => by
    obtain ⟨i, hi, e⟩ := mn_mem (l := l) k
    have e2 : mnN l (k + 1) = if mnN l k ≤ li l (k + 1) then mnN l k else li l (k + 1) := rfl
    rw [e2]
    split
    · exact ⟨i, by omega, e⟩
    · exact ⟨k + 1, Nat.le_refl _, rfl⟩
theorem mx_mem {l : List Int} : ∀ k, ∃ i, i ≤ k ∧ mxN l k = li l i
  | 0 => ⟨0, Nat.le_refl _, rfl⟩
  | k + 1 => by
    obtain ⟨i, hi, e⟩ := mx_mem (l := l) k
    have e2 : mxN l (k + 1) = if li l (k + 1) ≤ mxN l k then mxN l k else li l (k + 1) := rfl
    rw [e2]
    split
    · exact ⟨i, by omega, e⟩
    · exact ⟨k + 1, Nat.le_refl _, rfl⟩
theorem prods_at (a b : Ty) (ha : TyK a) (hb : TyK b) (i : Nat) (hi : i ≤ 3) : ∃ x y, (x = a.lo ∨ x = a.hi) ∧ (y = b.lo ∨ y = b.hi) ∧ li (prods a b) i = x * y := by
  unfold TyK at ha hb
  rcases (by omega : i = 0 ∨ i = 1 ∨ i = 2 ∨ i = 3) with rfl | rfl | rfl | rfl
  · exact ⟨a.lo, b.lo, .inl rfl, .inl rfl, wmul (by omega) (by omega)⟩
  · exact ⟨a.lo, b.hi, .inl rfl, .inr rfl, wmul (by omega) (by omega)⟩
  · exact ⟨a.hi, b.lo, .inr rfl, .inl rfl, wmul (by omega) (by omega)⟩
  · exact ⟨a.hi, b.hi, .inr rfl, .inr rfl, wmul (by omega) (by omega)⟩
theorem prods_sub (a b a' b' : Ty) (ha : TyK a) (hb : TyK b) (ha' : TyK a') (hb' : TyK b') (h1 : a.lo ≤ a'.lo) (h2 : a'.hi ≤ a.hi) (h3 : b.lo ≤ b'.lo) (h4 : b'.hi ≤ b.hi) :
    mnN (prods a b) 3 ≤ mnN (prods a' b') 3 ∧ mnN (prods a' b') 3 ≤ mxN (prods a' b') 3 ∧ mxN (prods a' b') 3 ≤ mxN (prods a b) 3 := by
  obtain ⟨i, hi, e⟩ := mn_mem (l := prods a' b') 3
  obtain ⟨j, hj, f⟩ := mx_mem (l := prods a' b') 3
  obtain ⟨x, y, hx, hy, e2⟩ := prods_at a' b' ha' hb' i hi
  obtain ⟨u, v, hu, hv, f2⟩ := prods_at a' b' ha' hb' j hj
  have k1 := ha'.2.1
  have k2 := hb'.2.1
  have p := prod_in a b ha hb x y (by rcases hx with rfl | rfl <;> omega) (by rcases hx with rfl | rfl <;> omega) (by rcases hy with rfl | rfl <;> omega) (by rcases hy with rfl | rfl <;> omega)
  have p2 := prod_in a b ha hb u v (by rcases hu with rfl | rfl <;> omega) (by rcases hu with rfl | rfl <;> omega) (by rcases hv with rfl | rfl <;> omega) (by rcases hv with rfl | rfl <;> omega)
  have m := mn_le (l := prods a' b') 3 0 (by omega)
  have m2 := mx_ge (l := prods a' b') 3 0 (by omega)
  rw [← e2, ← e] at p
  rw [← f2, ← f] at p2
  omega

theorem goodL_of : ∀ {l : List Ex}, (∀ i, i < l.length → Good (kd l i)) → GoodL l
  | [], _ => trivial
  | t :: r, h => ⟨h 0 (by simp), goodL_of (fun i hi => by have := h (i + 1) (by simpa using hi); simpa [kd] using this)⟩
theorem fdL_congr {α : Type} {z : α} {nd : Ex → List α → α × Int} : ∀ {l l' : List Ex}, l.length = l'.length → (∀ i, i < l.length → fd z nd (kd l i) = fd z nd (kd l' i)) → fdL z nd l = fdL z nd l'
  | [], [], _, _ => rfl
  | [], b :: s, h, _ => by simp at h
  | a :: r, [], h, _ => by simp at h
  | a :: r, b :: s, h, he => by
    have h0 : fd z nd a = fd z nd b := he 0 (by simp)
    have h1 := fdL_congr (z := z) (nd := nd) (l := r) (l' := s) (by simpa using h) (fun i hi => by have := he (i + 1) (by simpa using hi); simpa [kd] using this)
    by_cases g : (fd z nd a).2 = 0
    · have e1 : fdL z nd (a :: r) = (((fd z nd a).1 :: (fdL z nd r).1.1, (fdL z nd r).1.2), (fdL z nd r).2) := if_pos g
      have e2 : fdL z nd (b :: s) = (((fd z nd b).1 :: (fdL z nd s).1.1, (fdL z nd s).1.2), (fdL z nd s).2) := if_pos (h0 ▸ g)
      rw [e1, e2, h0, h1]
    · have e1 : fdL z nd (a :: r) = (([], (fd z nd a).1), (fd z nd a).2) := if_neg g
      have e2 : fdL z nd (b :: s) = (([], (fd z nd b).1), (fd z nd b).2) := if_neg (h0 ▸ g)
      rw [e1, e2, h0]
theorem trC_congr : ∀ {l l' : List Ty}, l.length = l'.length → (∀ i, i < l.length → (ty l i).b = (ty l' i).b) → trC l = trC l'
  | [], [], _, _ => rfl
  | [], b :: s, h, _ => by simp at h
  | a :: r, [], h, _ => by simp at h
  | a :: r, b :: s, h, he => by
    have h0 : a.b = b.b := he 0 (by simp)
    have h1 := trC_congr (l := r) (l' := s) (by simpa using h) (fun i hi => by have := he (i + 1) (by simpa using hi); simpa [ty] using this)
    show (if a.b = true then 1 else 0) + trC r = (if b.b = true then 1 else 0) + trC s
    rw [h0, h1]
theorem suit_congr {o : Int} {l l' : List Ty} (h : l.length = l'.length) (he : ∀ i, i < l.length → (ty l i).b = (ty l' i).b) : suitS o l = suitS o l' := by
  have h1 := trC_congr h he
  have h2 : (ty l 0).b = (ty l' 0).b := by
    rcases Nat.eq_zero_or_pos l.length with g | g
    · have e : l = [] := List.eq_nil_of_length_eq_zero g
      have e' : l' = [] := List.eq_nil_of_length_eq_zero (by omega)
      rw [e, e']
    · exact he 0 g
  unfold suitS
  rw [h1, h2, h]
theorem SubT.k {y' y : Ty} (h : SubT y' y) (hb : y.b = false) : y.lo ≤ y'.lo ∧ y'.lo ≤ y'.hi ∧ y'.hi ≤ y.hi := h.2 hb
/-- The type of a node whose Kids' types narrow narrows. -/
theorem tyOf_sub {t t' : Ex} {T T' : List Ty} (ho : t'.op = t.op) (hv : t'.vr = t.vr) (hk1 : (kd t.ks 1).op = 1 → (kd t'.ks 1).op = 1 ∧ (kd t'.ks 1).vr = (kd t.ks 1).vr) (hok : okN t.op t.vr t.nm.size t.ks.length) (hl : T.length = t.ks.length) (hl' : T'.length = T.length)
    (hs : ∀ i, i < T.length → SubT (ty T' i) (ty T i)) (hK : ∀ i, i < T.length → TyK (ty T i)) (hK' : ∀ i, i < T.length → TyK (ty T' i)) (h0 : (tyOf t T).2 = 0) : (tyOf t' T').2 = 0 ∧ SubT (tyOf t' T').1 (tyOf t T).1 := by
  have hsu : suitS t.op T = true := by
    cases g : suitS t.op T with
    | true => rfl
    | false => unfold tyOf at h0; rw [g, if_pos rfl] at h0; have h3 : (13 : Int) = 0 := h0; omega
  have hsu' : suitS t'.op T' = true := by
    rw [ho, suit_congr hl' (fun i hi => (hs i (by omega)).1)]; exact hsu
  have hlen : (14 ≤ t.op ∧ t.op ≤ 17 → T.length = 2) ∧ (t.op = 18 → T.length = 3) := by
    obtain ⟨_, _, _, _, _, _, h1, h2⟩ := hok
    unfold kidL at h1
    unfold kidM at h2
    refine ⟨fun a => ?_, fun a => ?_⟩
    · (repeat' split at h1) <;> (repeat' split at h2) <;> omega
    · (repeat' split at h1) <;> (repeat' split at h2) <;> omega
  by_cases o14 : t.op = 14 ∨ t.op = 15 ∨ t.op = 16
  · have hl2 : T.length = 2 := hlen.1 (by omega)
    match T, T', hl2, (hl'.trans hl2) with
    | [a, b], [a', b'], _, _ =>
      have s0 : SubT a' a := hs 0 (by simp)
      have s1 : SubT b' b := hs 1 (by simp)
      have k0 : TyK a := hK 0 (by simp)
      have k1 : TyK b := hK 1 (by simp)
      have k0' : TyK a' := hK' 0 (by simp)
      have k1' : TyK b' := hK' 1 (by simp)
      have hab : (a.b || b.b) = false := by
        cases g : (a.b || b.b) with
        | false => rfl
        | true =>
          have h3 : (tyOf t [a, b]).2 = 13 := by
            rcases o14 with o | o | o
            · rw [join_add o k0 k1, if_pos g]
            · rw [join_sub o k0 k1, if_pos g]
            · rw [join_mul o k0 k1, if_pos g]
          omega
      simp only [Bool.or_eq_false_iff] at hab
      have hn : ¬ (a.b || b.b) = true := by simp [hab.1, hab.2]
      have hn' : ¬ (a'.b || b'.b) = true := by simp [s0.1, s1.1, hab.1, hab.2]
      have r0 := s0.k hab.1
      have r1 := s1.k hab.2
      rcases o14 with o | o | o
      · rw [join_add o k0 k1, if_neg hn] at h0 ⊢
        rw [join_add (ho.trans o) k0' k1', if_neg hn']
        exact span_sub h0 (by omega) (by omega) (by omega)
      · rw [join_sub o k0 k1, if_neg hn] at h0 ⊢
        rw [join_sub (ho.trans o) k0' k1', if_neg hn']
        exact span_sub h0 (by omega) (by omega) (by omega)
      · rw [join_mul o k0 k1, if_neg hn] at h0 ⊢
        rw [join_mul (ho.trans o) k0' k1', if_neg hn']
        have p := prods_sub a b a' b' k0 k1 k0' k1' r0.1 r0.2.2 r1.1 r1.2.2
        exact span_sub h0 p.1 p.2.1 p.2.2
  by_cases o18 : t.op = 18
  · match T, T', hlen.2 o18, (hl'.trans (hlen.2 o18)) with
    | [a, b, c], [a', b', c'], _, _ =>
      have s0 : SubT a' a := hs 0 (by simp)
      have s1 : SubT b' b := hs 1 (by simp)
      have s2 : SubT c' c := hs 2 (by simp)
      rw [join_if o18] at h0 ⊢
      rw [join_if (ho.trans o18), s0.1, s1.1, s2.1]
      by_cases g : (!a.b || b.b != c.b) = true
      · rw [if_pos g] at h0; have h3 : (13 : Int) = 0 := h0; omega
      · rw [if_neg g] at h0 ⊢
        rw [if_neg g]
        simp only [Bool.or_eq_true, bne_iff_ne, ne_eq, not_or, Decidable.not_not] at g
        by_cases g4 : b.b = true
        · rw [if_pos g4, if_pos g4]
          exact ⟨rfl, SubT.refl tyT_k⟩
        · rw [if_neg g4] at h0 ⊢
          rw [if_neg g4]
          have gb : b.b = false := by simpa using g4
          have r1 := s1.k gb
          have r2 := s2.k (g.2 ▸ gb)
          exact span_sub h0 (by omega) (by omega) (by omega)
  by_cases o1 : t.op = 1
  · have e1 : tyOf t T = spanS t.vr t.vr := by unfold tyOf; rw [hsu, if_neg (by simp), if_pos o1]
    have e2 : tyOf t' T' = spanS t.vr t.vr := by unfold tyOf; rw [hsu', if_neg (by simp), ho, hv, if_pos o1]
    rw [e1] at h0 ⊢
    rw [e2]
    exact ⟨h0, SubT.refl (span_k _ _)⟩
  by_cases o17 : t.op = 17
  · have e1 : tyOf t T = (if (kd t.ks 1).op = 1 ∧ 0 < (kd t.ks 1).vr then spanS 0 ((kd t.ks 1).vr - 1) else (ty0, 2)) := by unfold tyOf; rw [hsu, if_neg (by simp), if_neg o1, if_neg o14, if_pos o17]
    have e2 : tyOf t' T' = (if (kd t'.ks 1).op = 1 ∧ 0 < (kd t'.ks 1).vr then spanS 0 ((kd t'.ks 1).vr - 1) else (ty0, 2)) := by unfold tyOf; rw [hsu', if_neg (by simp), ho, if_neg o1, if_neg o14, if_pos o17]
    rw [e1] at h0 ⊢
    rw [e2]
    by_cases g : (kd t.ks 1).op = 1 ∧ 0 < (kd t.ks 1).vr
    · obtain ⟨e3, e4⟩ := hk1 g.1
      rw [if_pos g] at h0 ⊢
      rw [if_pos ⟨e3, by rw [e4]; exact g.2⟩, e4]
      exact ⟨h0, SubT.refl (span_k _ _)⟩
    · rw [if_neg g] at h0; have h3 : (2 : Int) = 0 := h0; omega
  have e1 : tyOf t T = (tyT, 0) := by unfold tyOf; rw [hsu, if_neg (by simp), if_neg o1, if_neg o14, if_neg o17, if_neg o18]
  have e2 : tyOf t' T' = (tyT, 0) := by unfold tyOf; rw [hsu', if_neg (by simp), ho, if_neg o1, if_neg o14, if_neg o17, if_neg o18]
  rw [e1, e2]
  exact ⟨rfl, SubT.refl tyT_k⟩

def numE (v : Int) : Ex := .mk 1 v ⟨#[]⟩ []
theorem numE_good {v : Int} (h : -255 ≤ v ∧ v ≤ 255) : Good (numE v) := by
  refine ⟨?_, trivial⟩
  have e : (⟨#[]⟩ : ByteArray).size = 0 := rfl
  unfold okN numL numM lenL lenM kidL kidM
  rw [e]
  simp
  exact h
theorem leafs {t : Ex} (h : okN t.op t.vr t.nm.size t.ks.length) (ho : t.op ≤ 4) : t.ks = [] := by
  obtain ⟨_, _, _, _, _, _, _, h2⟩ := h
  unfold kidM at h2
  rw [if_pos (by omega)] at h2
  exact List.eq_nil_of_length_eq_zero (by omega)
set_option maxHeartbeats 1000000 in
theorem put_ok {vs : List Vr} {s n : List Int} (hs : RgS vs s) {m : ByteArray} {i : Nat} (hi : idxN m vs = some i) (hb : (va vs i).b = false) (hv : -255 ≤ li s i ∧ li s i ≤ 255) : ∀ (N : Nat) t, t.sz ≤ N → okE vs t →
    okE vs (putE m (numE (li s i)) t) ∧ SubT (fd ty0 (nodeT vs true) (putE m (numE (li s i)) t)).1 (fd ty0 (nodeT vs true) t).1 ∧ fd (0 : Int) (valN vs s n) (putE m (numE (li s i)) t) = fd (0 : Int) (valN vs s n) t := by
  intro N
  induction N with
  | zero => intro t h; have := sz_eq t; omega
  | succ N ih =>
    intro t ht hok
    have hN := hok.1.node
    have hr := hs.2 i (idxN_lt hi)
    rw [if_neg (by simp [hb])] at hr
    rw [putE_eq]
    by_cases q : (t.op == 3 && (t.nm.toList == m.toList)) = true
    · rw [if_pos q]
      simp only [Bool.and_eq_true, beq_iff_eq] at q
      have hks := leafs hN (by omega)
      have hidx : idxN t.nm vs = some i := by rw [idxN_congr (a := t.nm) (b := m) (by simp [q.2])]; exact hi
      have eT : fd ty0 (nodeT vs true) t = spanS (va vs i).lo (va vs i).hi := by
        have e : fd ty0 (nodeT vs true) t = nodeT vs true t [] := by rw [fd_eq, hks]; rfl
        rw [e]
        unfold nodeT varT
        rw [if_pos (.inl q.1), hidx]
        show (if t.op = 4 ∧ true = false then (ty0, (24 : Int)) else vspan (va vs i)) = _
        rw [if_neg (by simp)]
        unfold vspan
        rw [if_neg (by simp [hb])]
      have eX : fd ty0 (nodeT vs true) (numE (li s i)) = spanS (li s i) (li s i) := by
        show nodeT vs true (numE (li s i)) [] = _
        unfold nodeT tyOf
        rw [if_neg (by show ¬ ((1 : Int) = 3 ∨ (1 : Int) = 4); omega), if_neg (by show ¬ (suitS 1 [] = false); decide), if_pos (by rfl)]
        rfl
      have h0 : (spanS (va vs i).lo (va vs i).hi).2 = 0 := by rw [← eT]; exact hok.2
      obtain ⟨g1, g2⟩ := span_sub h0 hr.1 (Int.le_refl (li s i)) hr.2
      have hg := numE_good hv
      refine ⟨⟨hg, by rw [eX]; exact g1⟩, by rw [eX, eT]; exact g2, ?_⟩
      rw [val_one_op hs.1 hg rfl]
      have e : fd (0 : Int) (valN vs s n) t = valN vs s n t [] := by rw [fd_eq, hks]; rfl
      rw [e]
      unfold valN
      rw [if_neg (show ¬ t.op = 4 by omega), if_neg (by have := hs.1; omega), if_pos (.inl q.1), hidx]
      show _ = vvS (va vs i) (li s i)
      unfold vvS
      rw [if_neg (by simp [hb])]
      exact (add_ok (spanv_in h0 hr.1 hr.2).2).symm
    rw [if_neg q]
    by_cases o4 : t.op ≤ 4
    · have hks := leafs hN o4
      have e : Ex.mk t.op t.vr t.nm (putL m (numE (li s i)) t.ks) = t := by
        rw [hks]
        show Ex.mk t.op t.vr t.nm [] = t
        cases t
        have h2 := hks
        subst h2
        rfl
      rw [e]
      exact ⟨hok, SubT.refl (fd_pk (z := ty0) (nd := nodeT vs true) (ok := Good) (pk := TyK) (fun t h k hk => h.kid hk) (fun t l _ _ _ _ => node_k vs true t l) _ hok.1 hok.2), rfl⟩
    generalize numE (li s i) = x at *
    have hkid : ∀ j, j < t.ks.length → okE vs (putE m x (kd t.ks j)) ∧ SubT (fd ty0 (nodeT vs true) (putE m x (kd t.ks j))).1 (fd ty0 (nodeT vs true) (kd t.ks j)).1 ∧ fd (0 : Int) (valN vs s n) (putE m x (kd t.ks j)) = fd (0 : Int) (valN vs s n) (kd t.ks j) := fun j hj =>
      ih _ (by have := kd_sz hj; have := sz_eq t; omega) (hok.kid _ (kd_mem hj))
    have hpl := putL_len m x t.ks
    obtain ⟨T, hT, hTl⟩ := fdL_all (z := ty0) (nd := nodeT vs true) (ks := t.ks) (fun k hk => (hok.kid k hk).2)
    obtain ⟨T', hT', hTl'⟩ := fdL_all (z := ty0) (nd := nodeT vs true) (ks := putL m x t.ks) (fun k hk => by
      obtain ⟨j, hj, rfl⟩ := mem_kd hk
      rw [hpl] at hj
      rw [putL_kd m x t.ks j hj]
      exact (hkid j hj).1.2)
    have eV : fdL (0 : Int) (valN vs s n) (putL m x t.ks) = fdL (0 : Int) (valN vs s n) t.ks := fdL_congr hpl (fun j hj => by
      rw [hpl] at hj
      rw [putL_kd m x t.ks j hj]
      exact (hkid j hj).2.2)
    have eT : fd ty0 (nodeT vs true) t = tyOf t T := by
      rw [fd_eq, hT, if_pos rfl]
      unfold nodeT
      rw [if_neg (by omega)]
    have eT' : fd ty0 (nodeT vs true) (.mk t.op t.vr t.nm (putL m x t.ks)) = tyOf (.mk t.op t.vr t.nm (putL m x t.ks)) T' := by
      rw [fd_eq]
      have e : fdL ty0 (nodeT vs true) (Ex.mk t.op t.vr t.nm (putL m x t.ks)).ks = ((T', ty0), 0) := hT'
      rw [e, if_pos rfl]
      unfold nodeT
      rw [if_neg (by show ¬ (t.op = 3 ∨ t.op = 4); omega)]
    have h0 : (tyOf t T).2 = 0 := by rw [← eT]; exact hok.2
    have hgood : Good (.mk t.op t.vr t.nm (putL m x t.ks)) := ⟨by rw [hpl]; exact hN, goodL_of (fun j hj => by
      rw [hpl] at hj
      rw [putL_kd m x t.ks j hj]
      exact (hkid j hj).1.1)⟩
    have hat : ∀ j, j < t.ks.length → ty T j = (fd ty0 (nodeT vs true) (kd t.ks j)).1 ∧ ty T' j = (fd ty0 (nodeT vs true) (putE m x (kd t.ks j))).1 := fun j hj => by
      refine ⟨ty_at hT hj, ?_⟩
      rw [ty_at hT' (by rw [hpl]; exact hj), putL_kd m x t.ks j hj]
    have hTK : ∀ u, okE vs u → TyK (fd ty0 (nodeT vs true) u).1 := fun u hu => fd_pk (z := ty0) (nd := nodeT vs true) (ok := Good) (pk := TyK) (fun t h k hk => h.kid hk) (fun t l _ _ _ _ => node_k vs true t l) _ hu.1 hu.2
    obtain ⟨g1, g2⟩ := tyOf_sub (t := t) (t' := .mk t.op t.vr t.nm (putL m x t.ks)) (T := T) (T' := T') rfl rfl (fun h1 => by
      by_cases hl : 1 < t.ks.length
      · have e : kd (Ex.mk t.op t.vr t.nm (putL m x t.ks)).ks 1 = putE m x (kd t.ks 1) := putL_kd m x t.ks 1 hl
        rw [e, putE_eq, if_neg (by simp [h1])]
        exact ⟨h1, rfl⟩
      · have e : kd t.ks 1 = ex0 := by unfold kd; rw [List.getD, List.getElem?_eq_none (by omega)]; rfl
        rw [e] at h1
        exact absurd h1 (by decide)) hN hTl (by rw [hTl', hpl, hTl]) (fun j hj => by
      rw [hTl] at hj
      rw [(hat j hj).1, (hat j hj).2]
      exact (hkid j hj).2.1) (fun j hj => by
      rw [hTl] at hj
      rw [(hat j hj).1]
      exact hTK _ (hok.kid _ (kd_mem hj))) (fun j hj => by
      rw [hTl] at hj
      rw [(hat j hj).2]
      exact hTK _ (hkid j hj).1) h0
    refine ⟨⟨hgood, by rw [eT']; exact g1⟩, by rw [eT, eT']; exact g2, ?_⟩
    rw [fd_eq (z := (0 : Int)) (nd := valN vs s n) (t := t), fd_eq]
    show (if (fdL (0 : Int) (valN vs s n) (putL m x t.ks)).2 = 0 then valN vs s n (.mk t.op t.vr t.nm (putL m x t.ks)) (fdL (0 : Int) (valN vs s n) (putL m x t.ks)).1.1 else ((fdL (0 : Int) (valN vs s n) (putL m x t.ks)).1.2, (fdL (0 : Int) (valN vs s n) (putL m x t.ks)).2)) = _
    rw [eV]
    rfl

mutual
theorem chk_put (m : ByteArray) (v : Int) (hv : -255 ≤ v ∧ v ≤ 255) : ∀ (t : Ex) (d k : Int), (chk t d k).1 = 0 → chk (putE m (numE v) t) d k = chk t d k
  | .mk o vr nm ks, d, k, h => by
    rw [chk_eq] at h
    by_cases g : flawS o vr nm.size ks.length d (wrap64 (k + 1)) = 0
    · have g' : flawS (Ex.mk o vr nm ks).op (Ex.mk o vr nm ks).vr (Ex.mk o vr nm ks).nm.size (Ex.mk o vr nm ks).ks.length d (wrap64 (k + 1)) = 0 := g
      rw [if_pos g'] at h
      have hN := flaw_ok g
      rw [putE_eq]
      by_cases q : ((Ex.mk o vr nm ks).op == 3 && ((Ex.mk o vr nm ks).nm.toList == m.toList)) = true
      · rw [if_pos q]
        simp only [Bool.and_eq_true, beq_iff_eq] at q
        have ho : o = 3 := q.1
        have hks : ks = [] := leafs (t := .mk o vr nm ks) hN (by show o ≤ 4; omega)
        have hd : ¬ 64 < d ∧ ¬ 4096 < wrap64 (k + 1) := by
          unfold flawS at g
          (repeat' split at g) <;> first | omega | (exfalso; omega)
        have g2 : flawS (numE v).op (numE v).vr (numE v).nm.size (numE v).ks.length d (wrap64 (k + 1)) = 0 := by
          show flawS 1 v 0 0 d (wrap64 (k + 1)) = 0
          unfold flawS numL numM lenL lenM kidL kidM
          rw [if_neg hd.1, if_neg (by omega), if_neg (by simp; omega), if_neg (by simp), if_neg (by simp), if_neg hd.2]
        rw [chk_eq, chk_eq, if_pos g2, if_pos g']
        show chkL [] _ _ = chkL ks _ _
        rw [hks]
      · rw [if_neg q, chk_eq, chk_eq, if_pos g']
        have g2 : flawS (Ex.mk (Ex.mk o vr nm ks).op (Ex.mk o vr nm ks).vr (Ex.mk o vr nm ks).nm (putL m (numE v) (Ex.mk o vr nm ks).ks)).op (Ex.mk (Ex.mk o vr nm ks).op (Ex.mk o vr nm ks).vr (Ex.mk o vr nm ks).nm (putL m (numE v) (Ex.mk o vr nm ks).ks)).vr (Ex.mk (Ex.mk o vr nm ks).op (Ex.mk o vr nm ks).vr (Ex.mk o vr nm ks).nm (putL m (numE v) (Ex.mk o vr nm ks).ks)).nm.size (Ex.mk (Ex.mk o vr nm ks).op (Ex.mk o vr nm ks).vr (Ex.mk o vr nm ks).nm (putL m (numE v) (Ex.mk o vr nm ks).ks)).ks.length d (wrap64 (k + 1)) = 0 := by
          show flawS o vr nm.size (putL m (numE v) ks).length d (wrap64 (k + 1)) = 0
          rw [putL_len]; exact g
        rw [if_pos g2]
        exact chkL_put m v hv ks _ _ h
    · have g' : ¬ flawS (Ex.mk o vr nm ks).op (Ex.mk o vr nm ks).vr (Ex.mk o vr nm ks).nm.size (Ex.mk o vr nm ks).ks.length d (wrap64 (k + 1)) = 0 := g
      rw [if_neg g'] at h
      exact absurd h g
theorem chkL_put (m : ByteArray) (v : Int) (hv : -255 ≤ v ∧ v ≤ 255) : ∀ (l : List Ex) (d k : Int), (chkL l d k).1 = 0 → chkL (putL m (numE v) l) d k = chkL l d k
  | [], _, _, _ => rfl
  | t :: r, d, k, h => by
    have e : chkL (t :: r) d k = if (chk t d k).1 = 0 then chkL r d (chk t d k).2 else chk t d k := rfl
    have e2 : chkL (putL m (numE v) (t :: r)) d k = if (chk (putE m (numE v) t) d k).1 = 0 then chkL (putL m (numE v) r) d (chk (putE m (numE v) t) d k).2 else chk (putE m (numE v) t) d k := rfl
    rw [e] at h ⊢
    rw [e2]
    by_cases g : (chk t d k).1 = 0
    · rw [if_pos g] at h ⊢
      rw [chk_put m v hv t d k g, if_pos g]
      exact chkL_put m v hv r _ _ h
    · rw [if_neg g] at h; exact absurd h g
end
/-- What the law asks of a term typed and evaluated. -/
theorem typS_in {vs : List Vr} {s n : List Int} {t : Ex} (hs : RgS vs s) (hn : RgS vs n) (h : (typS vs true t).2 = 0) : evS vs t s n = ((fd (0 : Int) (valN vs s n) t).1, true) ∧ InT (typS vs true t).1 (fd (0 : Int) (valN vs s n) t).1 := by
  have hok := typS_ok h
  obtain ⟨h1, h2⟩ := val_in hs hn t.sz t (Nat.le_refl _) hok
  have e : typS vs true t = fd ty0 (nodeT vs true) t := by
    unfold typS at h ⊢
    by_cases g : chkE t = 0
    · rw [if_pos g]
    · rw [if_neg g] at h; exact absurd h g
  refine ⟨?_, by rw [e]; exact h2⟩
  unfold evS
  rw [if_pos ⟨h, hs.1⟩, h1]
  rfl
theorem typS_put {vs : List Vr} {s n : List Int} {t : Ex} (hs : RgS vs s) {m : ByteArray} {i : Nat} (hi : idxN m vs = some i) (hb : (va vs i).b = false) (hv : -255 ≤ li s i ∧ li s i ≤ 255) (h : (typS vs true t).2 = 0) :
    (typS vs true (putE m (numE (li s i)) t)).2 = 0 ∧ (typS vs true (putE m (numE (li s i)) t)).1.b = (typS vs true t).1.b ∧ evS vs (putE m (numE (li s i)) t) s n = evS vs t s n := by
  have hok := typS_ok h
  obtain ⟨h1, h2, h3⟩ := put_ok (n := n) hs hi hb hv t.sz t (Nat.le_refl _) hok
  have hc : chkE t = 0 := by
    by_cases g : chkE t = 0
    · exact g
    · unfold typS at h; rw [if_neg g] at h; exact absurd h g
  have hc2 : chkE (putE m (numE (li s i)) t) = 0 := by
    unfold chkE at hc ⊢
    rw [chk_put m _ hv t 1 0 hc]; exact hc
  have e : typS vs true t = fd ty0 (nodeT vs true) t := by unfold typS; rw [if_pos hc]
  have e2 : typS vs true (putE m (numE (li s i)) t) = fd ty0 (nodeT vs true) (putE m (numE (li s i)) t) := by unfold typS; rw [if_pos hc2]
  have g2 : (typS vs true (putE m (numE (li s i)) t)).2 = 0 := by rw [e2]; exact h1.2
  refine ⟨g2, by rw [e, e2]; exact h2.1, ?_⟩
  unfold evS
  rw [if_pos ⟨g2, hs.1⟩, if_pos ⟨h, hs.1⟩, h3]
end Go.Proofs.Ytcdpjodnbegepaa
