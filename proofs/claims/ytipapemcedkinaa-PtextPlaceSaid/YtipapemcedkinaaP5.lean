/- Trees in blocks of a kind; own rows of trees, by append; layer 7 (ptext). -/
import Derived.Test.YtipapemcedkinaaP4
import Derived.Test.YtipapemcedkinaaFnP
import Derived.Deep.RegionLaw
namespace Go.Proofs.Ytipapemcedkinaa
open Go.RowKit

/-- The Kids of the tree lie at A, and theirs where they say, all in blocks of P. -/
inductive RepS (P : Nat → Prop) (w : World) : Option Addr → Ex → Prop where
  | mk (A : Option Addr) (t : Ex) (ka : Nat → Option Addr) (kc : Nat → Nat)
      (hrow : 0 < t.ks.length → ∃ b f, A = some ⟨b, f, none⟩ ∧ P b ∧ ∀ i, i < t.ks.length → w.cell? ⟨b, f + i * 3, none⟩ = some (.int .i64 (kd t.ks i).op) ∧ w.cell? ⟨b, f + i * 3 + 1, none⟩ = some (.int .i64 (kd t.ks i).vr) ∧ w.cell? ⟨b, f + i * 3 + 2, none⟩ = some (.slice (ka i) (kd t.ks i).ks.length (kc i)))
      (hkid : ∀ i, i < t.ks.length → RepS P w (ka i) (kd t.ks i)) : RepS P w A t
theorem Rep.toS {B : Nat} {w : World} {A : Option Addr} {t : Ex} (h : Rep B w A t) : RepS (· < B) w A t := by
  induction h with
  | mk A t ka kc hrow hkid ih => exact .mk A t ka kc hrow ih
theorem RepS.toR {P : Nat → Prop} {B : Nat} {w : World} {A : Option Addr} {t : Ex} (h : RepS P w A t) (hP : ∀ b, P b → b < B) : Rep B w A t := by
  induction h with
  | mk A t ka kc hrow hkid ih =>
    refine .mk A t ka kc (fun hp => ?_) ih
    obtain ⟨b, f, e, hb, hc⟩ := hrow hp
    exact ⟨b, f, e, hP b hb, hc⟩
theorem RepS.mono {P P' : Nat → Prop} {w : World} {A : Option Addr} {t : Ex} (h : RepS P w A t) (hP : ∀ b, P b → P' b) : RepS P' w A t := by
  induction h with
  | mk A t ka kc hrow hkid ih =>
    refine .mk A t ka kc (fun hp => ?_) ih
    obtain ⟨b, f, e, hb, hc⟩ := hrow hp
    exact ⟨b, f, e, hP b hb, hc⟩
theorem RepS.kept {P : Nat → Prop} {w w' : World} {A : Option Addr} {t : Ex} (h : RepS P w A t) (hw : ∀ b, P b → w'.heap[b]? = w.heap[b]?) : RepS P w' A t := by
  induction h with
  | mk A t ka kc hrow hkid ih =>
    refine .mk A t ka kc (fun hp => ?_) ih
    obtain ⟨b, f, e, hb, hc⟩ := hrow hp
    have hh : ∀ o, w'.cell? ⟨b, o, none⟩ = w.cell? ⟨b, o, none⟩ := fun o => World.cell?_of_block (a := ⟨b, o, none⟩) (hw b hb)
    exact ⟨b, f, e, hb, fun i hi => ⟨(hh _).trans (hc i hi).1, (hh _).trans (hc i hi).2.1, (hh _).trans (hc i hi).2.2⟩⟩
/-- The cells of the expressions ks, their Kids at ka. -/
def csOf (ks : List Ex) (ka : Nat → Option Addr) (kc : Nat → Nat) : List Value := (List.range ks.length).flatMap fun i => [.int .i64 (kd ks i).op, .int .i64 (kd ks i).vr, .slice (ka i) (kd ks i).ks.length (kc i)]
theorem flat3_len {α : Type} (f g h : Nat → α) : ∀ l : List Nat, (l.flatMap fun i => [f i, g i, h i]).length = l.length * 3
  | [] => rfl
  | a :: r => by
    rw [List.flatMap_cons, List.length_append, flat3_len f g h r]
    simp only [List.length_cons, List.length_nil]
    omega
theorem flat3_at {α : Type} (f g h : Nat → α) : ∀ (l : List Nat) (i j : Nat) (a : Nat), l[i]? = some a → j < 3 → (l.flatMap fun i => [f i, g i, h i])[i * 3 + j]? = [f a, g a, h a][j]?
  | x :: r, 0, j, a, hi, hj => by
    obtain rfl : x = a := by simpa using hi
    rw [List.flatMap_cons, Nat.zero_mul, Nat.zero_add, List.getElem?_append_left (by simpa using hj)]
  | x :: r, i + 1, j, a, hi, hj => by
    have hl : [f x, g x, h x].length = 3 := rfl
    rw [List.flatMap_cons, List.getElem?_append_right (by rw [hl]; omega), hl, show (i + 1) * 3 + j - 3 = i * 3 + j by omega]
    exact flat3_at f g h r i j a (by simpa using hi) hj
theorem csOf_len (ks : List Ex) (ka : Nat → Option Addr) (kc : Nat → Nat) : (csOf ks ka kc).length = ks.length * 3 := by
  unfold csOf
  rw [flat3_len, List.length_range]
theorem csOf_at {ks : List Ex} {ka : Nat → Option Addr} {kc : Nat → Nat} {i j : Nat} (hi : i < ks.length) (hj : j < 3) : (csOf ks ka kc)[i * 3 + j]? = [Value.int .i64 (kd ks i).op, .int .i64 (kd ks i).vr, .slice (ka i) (kd ks i).ks.length (kc i)][j]? := by
  unfold csOf
  exact flat3_at _ _ _ _ i j i (by simp [hi]) hj
theorem csOf_one (ks : List Ex) (ka : Nat → Option Addr) (kc : Nat → Nat) : ∀ u ∈ csOf ks ka kc, u.oneCell' = true := by
  intro u hu
  unfold csOf at hu
  rw [List.mem_flatMap] at hu
  obtain ⟨i, _, hi⟩ := hu
  simp only [List.mem_cons, List.not_mem_nil, or_false] at hi
  rcases hi with rfl | rfl | rfl <;> rfl
theorem info25 : (Try.prog.info? 25).map (fun i => (i.zero, i.size, i.bytes)) = some (some (.agg #[.int .i64 0, .int .i64 0, .slice none 0 0]), 3, 40) := by kernel_rfl
theorem csOf_get {ks : List Ex} {ka : Nat → Option Addr} {kc : Nat → Nat} {i : Nat} (hi : i < ks.length) : (csOf ks ka kc)[i * 3]? = some (.int .i64 (kd ks i).op) ∧ (csOf ks ka kc)[i * 3 + 1]? = some (.int .i64 (kd ks i).vr) ∧ (csOf ks ka kc)[i * 3 + 2]? = some (.slice (ka i) (kd ks i).ks.length (kc i)) :=
  ⟨csOf_at (j := 0) hi (by omega), csOf_at (j := 1) hi (by omega), csOf_at (j := 2) hi (by omega)⟩
theorem flat3_congr {α : Type} (f g h f' g' h' : Nat → α) : ∀ l : List Nat, (∀ i, i ∈ l → f i = f' i ∧ g i = g' i ∧ h i = h' i) → (l.flatMap fun i => [f i, g i, h i]) = l.flatMap fun i => [f' i, g' i, h' i]
  | [], _ => rfl
  | a :: r, hh => by
    obtain ⟨h1, h2, h3⟩ := hh a (List.mem_cons_self ..)
    rw [List.flatMap_cons, List.flatMap_cons, flat3_congr f g h f' g' h' r (fun i hi => hh i (List.mem_cons_of_mem _ hi)), h1, h2, h3]
theorem kd_app_lt {ts : List Ex} {t : Ex} {i : Nat} (h : i < ts.length) : kd (ts ++ [t]) i = kd ts i := by
  unfold kd; simp [List.getD, List.getElem?_append_left h]
theorem kd_app_eq (ts : List Ex) (t : Ex) : kd (ts ++ [t]) ts.length = t := by
  unfold kd; simp [List.getD]
theorem csOf_snoc (ts : List Ex) (ka : Nat → Option Addr) (kc : Nat → Nat) (t : Ex) (A : Option Addr) (c : Nat) :
    csOf (ts ++ [t]) (fun i => if i = ts.length then A else ka i) (fun i => if i = ts.length then c else kc i) = csOf ts ka kc ++ [.int .i64 t.op, .int .i64 t.vr, .slice A t.ks.length c] := by
  unfold csOf
  rw [List.length_append, List.length_singleton, List.range_succ, List.flatMap_append]
  congr 1
  · refine flat3_congr _ _ _ _ _ _ _ (fun i hi => ?_)
    have hi2 : i < ts.length := List.mem_range.1 hi
    have hne : i ≠ ts.length := by omega
    rw [kd_app_lt hi2]
    simp [hne]
  · simp only [List.flatMap_cons, List.flatMap_nil, List.append_nil, if_pos]
    rw [kd_app_eq]
theorem owns_slice {w : World} {base size n : Nat} {e : TypeId} {v : Value} {xs : List Value} (h : w.ownsRow base e size v n xs) : ∃ A c, v = .slice A n c := by
  rcases h.2 with ⟨rfl, h0⟩ | ⟨g, cap, cur, rfl, _⟩
  · have h1 := h.1
    by_cases hn : n = 0
    · exact ⟨none, 0, by rw [hn]⟩
    · first
        | exact ⟨none, 0, by simp_all⟩
        | (exfalso; omega)
  · exact ⟨_, _, rfl⟩
theorem own_lt {w : World} {B e size n : Nat} {v : Value} {xs : List Value} (h : w.ownsRow B e size v n xs) {k : Nat} (hk : v.ownBlock = some k) : B ≤ k ∧ k < w.heap.size := World.ownsRow.lt h k hk
/-- Own rows outlive what leaves their block. -/
theorem own_eqb {w w' : World} {B e size n : Nat} {v : Value} {xs : List Value} (h : w.ownsRow B e size v n xs) (hb : ∀ k, v.ownBlock = some k → w'.heap[k]? = w.heap[k]?) : w'.ownsRow B e size v n xs := by
  obtain ⟨h1, h2⟩ := h
  refine ⟨h1, ?_⟩
  rcases h2 with h2 | ⟨g, cap, cur, hv, hg, hh, rest⟩
  · exact .inl h2
  · exact .inr ⟨g, cap, cur, hv, hg, (hb g (by rw [hv]; rfl)).trans hh, rest⟩
theorem own_keepG {w w' : World} {B e size n : Nat} {v : Value} {xs : List Value} (h : w.ownsRow B e size v n xs) (hb : Below w.heap.size w w') : w'.ownsRow B e size v n xs := own_eqb h (fun k hk => hb.block k (own_lt h hk).2)
theorem own_more {w : World} {B B' e size n : Nat} {v : Value} {xs : List Value} (h : w.ownsRow B e size v n xs) (hb : ∀ k, v.ownBlock = some k → B' ≤ k) : w.ownsRow B' e size v n xs := by
  obtain ⟨h1, h2⟩ := h
  refine ⟨h1, ?_⟩
  rcases h2 with h2 | ⟨g, cap, cur, hv, hg, hh, rest⟩
  · exact .inl h2
  · exact .inr ⟨g, cap, cur, hv, hb g (by rw [hv]; rfl), hh, rest⟩
/-- append of a row to a row of the call's own, in a drawn region. -/
theorem step_app_row {ops : Array Oper} {o : Oper} {a : Act} {w : World} {K : Act → World → Prop} {Q : Exit → Act → World → Prop} {Ex' : Prop} {sty ety size bytes : Nat} {z : Value}
    (hu : Try.prog.underlying sty = some (.slice ety)) (hi : (Try.prog.info? ety).map (fun i => (i.zero, i.size, i.bytes)) = some (some z, size, bytes)) (hzs : z.cells.size = size) (hsz : 0 < size) (hby : bytes ≤ 100) (hgd : o.guard = none) (s x : Operand)
    (ho : o.op = .call { callee := .builtin .append, args := #[s, x], argTypes := #[sty, sty] })
    (B n : Nat) (v : Value) (xs : List Value) (hs : a.eval s = v) (hown : w.ownsRow B ety size v n xs) (ad : Addr) (m cc : Nat) (news : List Value) (hx : a.eval x = .slice (some ad) m cc) (hl : news.length = m * size) (hc : ∀ j u, news[j]? = some u → w.cell? (ad.add j) = some u) (h1 : ∀ u ∈ news, u.oneCell' = true)
    (hB : B ≤ w.heap.size) (hlen : n + m ≤ 1000000000) (hK : ∀ A' c' w', w'.ownsRow B ety size (.slice A' (n + m) c') (n + m) (xs ++ news) → w.grownBy w' v.ownBlock → (∀ k, (Value.slice A' (n + m) c').ownBlock = some k → v.ownBlock = some k ∨ k = w.heap.size) → K (a.put o.dst (.slice A' (n + m) c')) w') :
    if Region.wanted o (yielded ops a.tmps) = true then Oper.wp Try.prog o a w K Q else Ex' := by
  obtain ⟨i0, hi0, hz0, hz1, hz2⟩ := info_parts hi
  have hw : Region.wanted o (yielded ops a.tmps) = true := by simp [Region.wanted, hgd]
  rw [if_pos hw]
  obtain ⟨v', w', hr, h2, h3, h4, h5⟩ := run_append_own_at (P := Try.prog) w B sty o.type ety i0 z size bytes hu hi0 hz0 hz1 hz2 hzs hsz v n xs hown ad m cc news hl hc h1 (by unfold maxLen; omega) (by have : (n + m) * bytes ≤ (n + m) * 100 := Nat.mul_le_mul_left _ hby; omega) hB
  obtain ⟨A', c', rfl⟩ := owns_slice h2
  unfold Oper.wp
  simp [execOp, ho, resolve, invoke, builtin, hs, hx, hr, Result.andThen]
  refine hK A' c' w' h2 h3 (fun k hk => ?_)
  rcases h5 with h5 | h5
  · exact .inl (by rw [← h5]; exact hk)
  · rw [hk] at h5
    exact .inr (Option.some.inj h5)
theorem balw (w : World) (o : Obj) : Below w.heap.size w (w.alloc o) := (Below.refl _ _).alloc (Nat.le_refl _) o
/-- An own row of expressions from block K on: what they hold lies from K on too, none of it in the row. -/
def RowE (w : World) (K : Nat) (v : Value) (ts : List Ex) : Prop := ∃ ka kc, w.ownsRow K 25 3 v ts.length (csOf ts ka kc) ∧
  ∀ i, i < ts.length → RepS (fun x => (K ≤ x ∧ x < w.heap.size) ∧ v.ownBlock ≠ some x) w (ka i) (kd ts i)
theorem RowE.nil (w : World) (K : Nat) : RowE w K (.slice none 0 0) [] := ⟨fun _ => none, fun _ => 0, World.ownsRow_nil _ _ _ _, fun i hi => absurd hi (by simp)⟩
section
variable {w : World} {K : Nat} {v : Value} {ts : List Ex}
theorem RowE.form (h : RowE w K v ts) : ∃ A c, v = .slice A ts.length c := by
  obtain ⟨_, _, ho, _⟩ := h
  exact owns_slice ho
theorem RowE.own_lt (h : RowE w K v ts) {x : Nat} (hx : v.ownBlock = some x) : K ≤ x ∧ x < w.heap.size := by
  obtain ⟨_, _, ho, _⟩ := h
  exact ho.lt x hx
theorem RowE.kept (h : RowE w K v ts) {w' : World} (hz : ∀ x, K ≤ x → x < w.heap.size → w'.heap[x]? = w.heap[x]?) (hs : w.heap.size ≤ w'.heap.size) : RowE w' K v ts := by
  have hl := fun k hk => h.own_lt (x := k) hk
  obtain ⟨ka, kc, h1, h2⟩ := h
  exact ⟨ka, kc, own_eqb h1 (fun k hk => hz k (hl k hk).1 (hl k hk).2), fun i hi => ((h2 i hi).kept (fun x hx => hz x hx.1.1 hx.1.2)).mono (fun x hx => ⟨⟨hx.1.1, by have := hx.1.2; omega⟩, hx.2⟩)⟩
/-- The row is the Kids of a tree. -/
theorem RowE.tree (h : RowE w K v ts) (o : Int) {A : Option Addr} {c : Nat} (hv : v = .slice A ts.length c) : RepS (fun x => K ≤ x ∧ x < w.heap.size) w A (.mk o 0 ts) := by
  obtain ⟨ka, kc, ho, hk⟩ := h
  subst hv
  refine .mk _ _ ka kc (fun hp => ?_) (fun i hi => (hk i hi).mono (fun x hx => hx.1))
  rcases ho.2 with ⟨hv, h0⟩ | ⟨g, cap, cur, hv, hg, hh, _, _, _, htk⟩
  · have hp2 : 0 < ts.length := hp
    have hl : ts.length = 0 := by
      have h1 := ho.1
      rw [h0, csOf_len] at *
    omega
  · have hA : A = some ⟨g, 0, none⟩ := by simpa using (Value.slice.inj hv).1
    subst hA
    have hB : Blk w g 25 cur := hh
    refine ⟨g, 0, rfl, ⟨hg, hB.lt⟩, fun i hi => ?_⟩
    have hi2 : i < ts.length := hi
    obtain ⟨c0, c1, c2⟩ := csOf_get (ka := ka) (kc := kc) hi2
    have hat : ∀ j u, (csOf ts ka kc)[j]? = some u → w.cell? ⟨g, 0 + j, none⟩ = some u := fun j u hj => by
      rw [Nat.zero_add, hB.cell j]
      rw [← htk, List.getElem?_take] at hj
      split at hj
      · rwa [Array.getElem?_toList] at hj
      · cases hj
    exact ⟨hat _ _ c0, hat _ _ c1, hat _ _ c2⟩
end
/-- One expression more. -/
theorem RowE.push {w W w8 : World} {K : Nat} {v v8 : Value} {ts : List Ex} {ka : Nat → Option Addr} {kc : Nat → Nat} {t : Ex} {A : Option Addr} {c : Nat}
    (ho0 : w.ownsRow K 25 3 v ts.length (csOf ts ka kc)) (hk : ∀ i, i < ts.length → RepS (fun x => (K ≤ x ∧ x < w.heap.size) ∧ v.ownBlock ≠ some x) w (ka i) (kd ts i)) (hW : ∀ x, K ≤ x → x < w.heap.size → W.heap[x]? = w.heap[x]?) (hs : w.heap.size ≤ W.heap.size)
    (ht : RepS (fun x => (K ≤ x ∧ x < W.heap.size) ∧ v.ownBlock ≠ some x) W A t)
    (hg : W.grownBy w8 v.ownBlock) (ho : w8.ownsRow K 25 3 v8 (ts.length + 1) (csOf ts ka kc ++ (exC t A c).toList)) (hat : ∀ k, v8.ownBlock = some k → v.ownBlock = some k ∨ k = W.heap.size) : RowE w8 K v8 (ts ++ [t]) := by
  have hgs := hg.size
  have hown : ∀ k, v.ownBlock = some k → k < w.heap.size := fun k hk => (ho0.lt k hk).2
  have keep : ∀ (A : Option Addr) (u : Ex), RepS (fun x => (K ≤ x ∧ x < W.heap.size) ∧ v.ownBlock ≠ some x) W A u → RepS (fun x => (K ≤ x ∧ x < w8.heap.size) ∧ v8.ownBlock ≠ some x) w8 A u := fun A u hr =>
    (hr.kept (fun x hx => hg.block x hx.1.2 (fun e => hx.2 e.symm))).mono (fun x hx => ⟨⟨hx.1.1, by have := hx.1.2; omega⟩, fun e => by
      rcases hat x e with q | q
      · exact hx.2 q
      · have := hx.1.2; omega⟩)
  refine ⟨fun i => if i = ts.length then A else ka i, fun i => if i = ts.length then c else kc i, ?_, fun i hi => ?_⟩
  · rw [csOf_snoc, List.length_append, List.length_singleton]; exact ho
  · by_cases e : i = ts.length
    · subst e
      simp only [if_pos]
      rw [kd_app_eq]
      exact keep _ _ ht
    · have hi2 : i < ts.length := by rw [List.length_append, List.length_singleton] at hi; omega
      simp only [if_neg e]
      rw [kd_app_lt hi2]
      exact keep _ _ (((hk i hi2).kept (fun x hx => hW x hx.1.1 hx.1.2)).mono (fun x hx => ⟨⟨hx.1.1, by have := hx.1.2; omega⟩, hx.2⟩))
end Go.Proofs.Ytipapemcedkinaa
