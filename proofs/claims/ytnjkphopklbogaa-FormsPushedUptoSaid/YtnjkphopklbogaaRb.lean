/- What push makes: its shape, its names, its validity; layer 32 (forms). -/
import Derived.Test.YtnjkphopklbogaaMh
import Derived.Test.YtnjkphopklbogaaMe
namespace Go.Proofs.Ytnjkphopklbogaa
open Go.RowKit

/-! ### terms: the negation of a valid one is valid -/
theorem flawS_move {o v : Int} {L : Nat} {n d k d' k' : Int} (h : flawS o v L n d k = 0) (hd : d' ≤ 64) (hk : k' ≤ 4096) : flawS o v L n d' k' = 0 := by
  unfold flawS at h ⊢
  by_cases h1 : 64 < d
  · rw [if_pos h1] at h; exact absurd h (by decide)
  rw [if_neg h1] at h
  rw [if_neg (by omega)]
  by_cases h2 : o < 1 ∨ 18 < o
  · rw [if_pos h2] at h; exact absurd h (by decide)
  rw [if_neg h2] at h ⊢
  by_cases h3 : v < numL o ∨ numM o < v
  · rw [if_pos h3] at h; exact absurd h (by decide)
  rw [if_neg h3] at h ⊢
  by_cases h4 : (L : Int) < lenL o ∨ lenM o < (L : Int)
  · rw [if_pos h4] at h; exact absurd h (by decide)
  rw [if_neg h4] at h ⊢
  by_cases h5 : n < kidL o ∨ kidM o < n
  · rw [if_pos h5] at h; exact absurd h (by decide)
  rw [if_neg h5] at h ⊢
  rw [if_neg (by omega)]
mutual
theorem chk_move : ∀ (t : Ex) (d k d' k' : Int), (chk t d k).1 = 0 → d' + t.sz ≤ 65 → 0 ≤ k' → k' + t.sz ≤ 4096 → (chk t d' k').1 = 0 ∧ (chk t d' k').2 = k' + t.sz
  | .mk o v m ks, d, k, d', k', h, hd, h0, hk => by
    have hz : (Ex.mk o v m ks).sz = 1 + szL ks := rfl
    have hw : wrap64 (k' + 1) = k' + 1 := by unfold wrap64; omega
    rw [chk_eq] at h ⊢
    rw [hw]
    by_cases hf : flawS (Ex.mk o v m ks).op (Ex.mk o v m ks).vr (Ex.mk o v m ks).nm.size (Ex.mk o v m ks).ks.length d (wrap64 (k + 1)) = 0
    · rw [if_pos hf] at h
      rw [if_pos (flawS_move hf (by omega) (by omega))]
      have h2 := chkL_move ks (d + 1) (wrap64 (k + 1)) (d' + 1) (k' + 1) h (by omega) (by omega) (by omega)
      exact ⟨h2.1, by show (chkL ks (d' + 1) (k' + 1)).2 = _; rw [h2.2]; omega⟩
    · rw [if_neg hf] at h
      exact absurd h hf
theorem chkL_move : ∀ (l : List Ex) (d k d' k' : Int), (chkL l d k).1 = 0 → d' + szL l ≤ 65 → 0 ≤ k' → k' + szL l ≤ 4096 → (chkL l d' k').1 = 0 ∧ (chkL l d' k').2 = k' + szL l
  | [], _, _, _, k', _, _, _, _ => ⟨rfl, by show k' = k' + ((0 : Nat) : Int); omega⟩
  | t :: r, d, k, d', k', h, hd, h0, hk => by
    have hz : szL (t :: r) = t.sz + szL r := rfl
    have h2 : (if (chk t d k).1 = 0 then chkL r d (chk t d k).2 else chk t d k).1 = 0 := h
    by_cases he : (chk t d k).1 = 0
    · rw [if_pos he] at h2
      have e1 := chk_move t d k d' k' he (by omega) h0 (by omega)
      have e2 := chkL_move r d (chk t d k).2 d' (chk t d' k').2 h2 (by omega) (by omega) (by omega)
      show (if (chk t d' k').1 = 0 then chkL r d' (chk t d' k').2 else chk t d' k').1 = 0 ∧ (if (chk t d' k').1 = 0 then chkL r d' (chk t d' k').2 else chk t d' k').2 = _
      rw [if_pos e1.1]
      exact ⟨e2.1, by rw [e2.2, e1.2]; omega⟩
    · rw [if_neg he] at h2
      exact absurd h2 he
end
theorem chkE_not {e : Ex} (h : chkE e = 0) (hs : e.sz ≤ 60) : chkE (notE e) = 0 := by
  have h2 := (chk_move e 1 0 2 1 h (by omega) (by omega) (by omega)).1
  have ew : wrap64 (0 + 1) = 1 := by unfold wrap64; omega
  have hf : flawS 5 0 0 1 1 1 = 0 := by kernel_rfl
  show (if flawS 5 0 0 1 1 (wrap64 (0 + 1)) = 0 then (if (chk e 2 (wrap64 (0 + 1))).1 = 0 then chkL [] 2 (chk e 2 (wrap64 (0 + 1))).2 else chk e 2 (wrap64 (0 + 1))) else (flawS 5 0 0 1 1 (wrap64 (0 + 1)), wrap64 (0 + 1))).1 = 0
  rw [ew, if_pos hf, if_pos h2]
  rfl
theorem noth0 : noth ex0 = true := by kernel_rfl
theorem two_of {l : List Fx} (h : l.length = 2) : ∃ x y, l = [x, y] := by
  match l, h with
  | [x, y], _ => exact ⟨x, y, rfl⟩
theorem hx_not (e : Ex) : hx (notE e) = hx e := by
  show ((5 : Int) == 4 || (hx e || false)) = hx e
  simp
theorem occ_not (e : Ex) : occ 3 (notE e) = occ 3 e := by
  rw [occ_eq]
  show (if (5 : Int) = 3 then [key ⟨#[]⟩] else []) ++ (occ 3 e ++ []) = occ 3 e
  rw [if_neg (by decide)]
  simp
theorem tfl_term {e : Ex} {ks : List Fx} (h : tfl (.mk 1 e ks) = 0) : chkE e = 0 ∧ hx e = false := by
  have h : (if (1 : Int) = 1 then (if chkE e ≠ 0 then chkE e else if hx e = true then 24 else 0) else 0) = 0 := h
  rw [if_pos rfl] at h
  by_cases h1 : chkE e ≠ 0
  · rw [if_pos h1] at h; exact absurd h h1
  · rw [if_neg h1] at h
    refine ⟨by simpa using h1, ?_⟩
    cases hh : hx e
    · rfl
    · rw [hh, if_pos rfl] at h; exact absurd h (by decide)
/-! ### valid formulas -/
mutual
def dF : Fx → Nat | .mk _ _ ks => 1 + dFL ks
def dFL : List Fx → Nat
  | [] => 0
  | t :: r => max (dF t) (dFL r)
end
mutual
theorem chF_ok : ∀ (t : Fx) (d k : Int), okF t → d + dF t ≤ 65 → 0 ≤ k → k + t.sz ≤ 4096 → (chF t d k).1 = 0 ∧ 0 ≤ (chF t d k).2 ∧ (chF t d k).2 ≤ k + t.sz
  | .mk o e ks, d, k, h, hd, h0, hk => by
    have hz : (Fx.mk o e ks).sz = e.sz + fszL ks := rfl
    have hdz : dF (Fx.mk o e ks) = 1 + dFL ks := rfl
    have hp := sz_pos e
    have hw : wrap64 (k + 1) = k + 1 := by unfold wrap64; omega
    have hf : flF (.mk o e ks) d (k + 1) = 0 := by rw [flF_part, if_neg (by omega), if_neg (by rw [h.1]; decide), if_neg (by omega)]
    rw [chF_eq, hw, if_pos hf]
    have h2 := chFL_ok ks (d + 1) (k + 1) h.2 (by omega) (by omega) (by omega)
    exact ⟨h2.1, h2.2.1, by have := h2.2.2; show (chFL ks (d + 1) (k + 1)).2 ≤ _; omega⟩
theorem chFL_ok : ∀ (l : List Fx) (d k : Int), okL l → d + dFL l ≤ 65 → 0 ≤ k → k + fszL l ≤ 4096 → (chFL l d k).1 = 0 ∧ 0 ≤ (chFL l d k).2 ∧ (chFL l d k).2 ≤ k + fszL l
  | [], d, k, _, _, h0, _ => ⟨rfl, h0, by show k ≤ k + ((0 : Nat) : Int); omega⟩
  | t :: r, d, k, h, hd, h0, hk => by
    have hz : fszL (t :: r) = t.sz + fszL r := rfl
    have hdz : dFL (t :: r) = max (dF t) (dFL r) := rfl
    have e1 := chF_ok t d k h.1 (by omega) h0 (by omega)
    have e2 := chFL_ok r d (chF t d k).2 h.2 (by omega) (by omega) (by omega)
    show (if (chF t d k).1 = 0 then chFL r d (chF t d k).2 else chF t d k).1 = 0 ∧ 0 ≤ (if (chF t d k).1 = 0 then chFL r d (chF t d k).2 else chF t d k).2 ∧ (if (chF t d k).1 = 0 then chFL r d (chF t d k).2 else chF t d k).2 ≤ _
    rw [if_pos e1.1]
    exact ⟨e2.1, e2.2.1, by omega⟩
end
theorem ok_node {o : Int} {ks : List Fx} (h1 : o ≠ 1) (hl : 1 ≤ o) (hh : o ≤ 13) (hk : (ks.length : Int) = fk o) (hok : okL ks) : okF (.mk o ex0 ks) := by
  refine ⟨?_, hok⟩
  have ht : tfl (.mk o ex0 ks) = 0 := by unfold tfl; exact if_neg h1
  show (if (64 : Int) < 1 then 17 else if o < 1 ∨ 13 < o then 11 else if tfl (.mk o ex0 ks) ≠ 0 then tfl (.mk o ex0 ks) else if (ks.length : Int) ≠ fk o then 3 else if o ≠ 1 ∧ noth ex0 = false then 3 else if (4096 : Int) < 0 then 4 else 0) = 0
  rw [if_neg (by decide), if_neg (by omega), if_neg (by rw [ht]; decide), if_neg (by simpa using hk), if_neg (fun h => by rw [noth0] at h; exact absurd h.2 (by decide)), if_neg (by decide)]
/-! ### negation normal form -/
mutual
/-- No negation but above an until, no implication. -/
def pdF : Fx → Bool | .mk o _ ks => !(o == 5 || (o == 2 && (!(ks.length == 1) || (!((fkd ks 0).op == 9) && !((fkd ks 0).op == 13))))) && pdL ks
def pdL : List Fx → Bool
  | [] => true
  | t :: r => pdF t && pdL r
end
theorem pd_node {o : Int} {e : Ex} {ks : List Fx} (h2 : o ≠ 2) (h5 : o ≠ 5) (hk : pdL ks = true) : pdF (.mk o e ks) = true := by
  show (!(o == 5 || (o == 2 && _)) && pdL ks) = true
  have e5 : (o == 5) = false := by simp [h5]
  have e2 : (o == 2) = false := by simp [h2]
  rw [e5, e2, hk]; rfl
theorem psF_nary {o : Int} {e : Ex} {ks : List Fx} {b : Bool} (h1 : o ≠ 1) (h2 : o ≠ 2) (h5 : o ≠ 5) (h9 : o ≠ 9) (h13 : o ≠ 13) : psF (.mk o e ks) b = .mk (dualF o b) ex0 (ks.map (fun u => psF u b)) := by
  rw [psF_eq]
  show (if o = 1 then _ else if o = 2 then _ else if o = 5 then _ else if o = 9 ∨ o = 13 then _ else _) = _
  rw [if_neg h1, if_neg h2, if_neg h5, if_neg (by omega)]
  rfl
/-- What push makes of a valid formula. -/
structure PsP (t g : Fx) (b : Bool) : Prop where
  pd : pdF g = true
  idem : psF g false = g
  nm : nmF g = nmF t
  ok : okF g
  dp : dF g ≤ t.sz + (if b = true then 1 else 0)
theorem map_ps {ks : List Fx} {b : Bool} (h : ∀ u, u ∈ ks → PsP u (psF u b) b) : pdL (ks.map (fun u => psF u b)) = true ∧ (ks.map (fun u => psF u b)).map (fun u => psF u false) = ks.map (fun u => psF u b) ∧ nmL (ks.map (fun u => psF u b)) = nmL ks ∧ okL (ks.map (fun u => psF u b)) ∧ dFL (ks.map (fun u => psF u b)) ≤ fszL ks + (if b = true then 1 else 0) := by
  induction ks with
  | nil => exact ⟨rfl, rfl, rfl, trivial, Nat.zero_le _⟩
  | cons a r ih =>
    obtain ⟨i1, i2, i3, i4, i5⟩ := ih (fun u hu => h u (List.mem_cons_of_mem _ hu))
    have ha := h a (List.mem_cons_self ..)
    have hz : fszL (a :: r) = a.sz + fszL r := rfl
    refine ⟨?_, ?_, ?_, ⟨ha.ok, i4⟩, ?_⟩
    · show (pdF (psF a b) && pdL (r.map (fun u => psF u b))) = true
      rw [ha.pd, i1]; rfl
    · rw [List.map_cons, List.map_cons, ha.idem, i2]
    · show nmF (psF a b) ++ nmL (r.map (fun u => psF u b)) = nmF a ++ nmL r
      rw [ha.nm, i3]
    · show max (dF (psF a b)) (dFL (r.map (fun u => psF u b))) ≤ _
      have := ha.dp
      omega
theorem nm_other {o : Int} {e : Ex} {ks : List Fx} (h : noth e = true) : nmF (.mk o e ks) = nmL ks := by
  show setK (occ 3 e) ++ nmL ks = nmL ks
  rw [noth_occ h, setK_nil, List.nil_append]
theorem dual_in {o : Int} {b : Bool} (h : o = 3 ∨ o = 4 ∨ o = 6 ∨ o = 7 ∨ o = 8 ∨ o = 10 ∨ o = 11 ∨ o = 12) : (dualF o b ≠ 1 ∧ dualF o b ≠ 2 ∧ dualF o b ≠ 5 ∧ dualF o b ≠ 9 ∧ dualF o b ≠ 13) ∧ 1 ≤ dualF o b ∧ dualF o b ≤ 13 ∧ fk (dualF o b) = fk o := by
  rcases h with rfl | rfl | rfl | rfl | rfl | rfl | rfl | rfl <;> cases b <;> decide
theorem ps_all : ∀ (n : Nat) (t : Fx), t.sz ≤ n → okF t → t.sz ≤ 60 → ∀ b, PsP t (psF t b) b := by
  intro n
  induction n with
  | zero => intro t h; have := fsz_pos t; omega
  | succ n ih =>
    intro t ht hok hs b
    obtain ⟨o, e, ks⟩ := t
    have hN := okN hok.1
    have hz : (Fx.mk o e ks).sz = e.sz + fszL ks := rfl
    have hp := sz_pos e
    have hkids : ∀ u, u ∈ ks → ∀ b, PsP u (psF u b) b := fun u hu b => ih u (by have := fszL_mem hu; omega) (okL_mem hok.2 u hu) (by have := fszL_mem hu; omega) b
    have hlo : 1 ≤ o := hN.lo
    have hhi : o ≤ 13 := hN.hi
    have hkn : (ks.length : Int) = fk o := hN.kids
    have hno : o = 1 ∨ noth e = true := hN.term
    by_cases h1 : o = 1
    · subst h1
      have hk0 : ks = [] := List.eq_nil_of_length_eq_zero (by have h : fk 1 = 0 := rfl; omega)
      subst hk0
      cases b
      · have hg : psF (.mk 1 e []) false = .mk 1 e [] := rfl
        rw [hg]
        exact ⟨rfl, rfl, rfl, hok, by show 1 + 0 ≤ _; omega⟩
      · have hg : psF (.mk 1 e []) true = .mk 1 (notE e) [] := rfl
        rw [hg]
        obtain ⟨hc, hh⟩ := tfl_term (hN.tfl)
        refine ⟨rfl, rfl, ?_, ⟨?_, trivial⟩, by show 1 + 0 ≤ _; omega⟩
        · show setK (occ 3 (notE e)) ++ [] = setK (occ 3 e) ++ []
          rw [occ_not]
        · have hsz : e.sz ≤ 60 := by omega
          have htf : tfl (.mk 1 (notE e) []) = 0 := by
            show (if (1 : Int) = 1 then (if chkE (notE e) ≠ 0 then chkE (notE e) else if hx (notE e) = true then 24 else 0) else 0) = 0
            rw [chkE_not hc hsz, hx_not, hh]
            rfl
          show (if (64 : Int) < 1 then 17 else if (1 : Int) < 1 ∨ 13 < (1 : Int) then 11 else if tfl (.mk 1 (notE e) []) ≠ 0 then tfl (.mk 1 (notE e) []) else if (([] : List Fx).length : Int) ≠ fk 1 then 3 else if (1 : Int) ≠ 1 ∧ noth (notE e) = false then 3 else if (4096 : Int) < 0 then 4 else 0) = 0
          rw [htf]
          rfl
    have hne : noth e = true := by
      rcases hno with h | h
      · exact absurd h h1
      · exact h
    by_cases h2 : o = 2
    · subst h2
      obtain ⟨x, rfl⟩ : ∃ x, ks = [x] := List.length_eq_one_iff.1 (by have h : fk 2 = 1 := rfl; omega)
      have hg : psF (.mk 2 e [x]) b = psF x (!b) := rfl
      rw [hg]
      have hx := hkids x (List.mem_cons_self ..) (!b)
      have hzx : fszL [x] = x.sz + 0 := rfl
      refine ⟨hx.pd, hx.idem, ?_, hx.ok, ?_⟩
      · rw [hx.nm, nm_other hne]
        show nmF x = nmF x ++ []
        simp
      · have hd := hx.dp
        cases b
        · have hd2 : dF (psF x (!false)) ≤ x.sz + 1 := hd
          have : dF (psF x (!false)) ≤ (Fx.mk 2 e [x]).sz + 0 := by omega
          simpa using this
        · have hd2 : dF (psF x (!true)) ≤ x.sz + 0 := hd
          have : dF (psF x (!true)) ≤ (Fx.mk 2 e [x]).sz + 1 := by omega
          simpa using this
    by_cases h5 : o = 5
    · subst h5
      obtain ⟨x, y, rfl⟩ : ∃ x y, ks = [x, y] := two_of (by have h : fk 5 = 2 := rfl; omega)
      have hg : psF (.mk 5 e [x, y]) b = .mk (dualF 4 b) ex0 [psF x (!b), psF y b] := rfl
      rw [hg]
      have hx := hkids x (List.mem_cons_self ..) (!b)
      have hy := hkids y (List.mem_cons_of_mem _ (List.mem_cons_self ..)) b
      have hzx : fszL [x, y] = x.sz + (y.sz + 0) := rfl
      obtain ⟨⟨d1, d2, d5, d9, d13⟩, dl, dh, dk⟩ := dual_in (o := 4) (b := b) (by omega)
      refine ⟨pd_node d2 d5 ?_, ?_, ?_, ok_node d1 dl dh (by rw [dk]; rfl) ⟨hx.ok, hy.ok, trivial⟩, ?_⟩
      · show (pdF (psF x (!b)) && (pdF (psF y b) && true)) = true
        rw [hx.pd, hy.pd]; rfl
      · rw [psF_nary d1 d2 d5 d9 d13]
        show Fx.mk (dualF (dualF 4 b) false) ex0 [psF (psF x (!b)) false, psF (psF y b) false] = _
        rw [hx.idem, hy.idem]; rfl
      · rw [nm_other noth0, nm_other hne]
        show nmF (psF x (!b)) ++ (nmF (psF y b) ++ []) = nmF x ++ (nmF y ++ [])
        rw [hx.nm, hy.nm]
      · show 1 + max (dF (psF x (!b))) (max (dF (psF y b)) 0) ≤ _
        have q1 := hx.dp
        have q2 := hy.dp
        have q3 := fsz_pos x
        have q4 := fsz_pos y
        have q5 : (if (!b) = true then 1 else 0) ≤ 1 := by split <;> omega
        have q6 : (if b = true then 1 else 0) ≤ 1 := by split <;> omega
        omega
    by_cases h9 : o = 9 ∨ o = 13
    · obtain ⟨x, y, rfl⟩ : ∃ x y, ks = [x, y] := two_of (by
        have e9 : fk 9 = 2 := rfl
        have e13 : fk 13 = 2 := rfl
        rcases h9 with e | e <;> rw [e] at hkn <;> omega)
      have hx := hkids x (List.mem_cons_self ..) false
      have hy := hkids y (List.mem_cons_of_mem _ (List.mem_cons_self ..)) false
      have hzx : fszL [x, y] = x.sz + (y.sz + 0) := rfl
      have hg0 : ∀ b, psF (.mk o e [x, y]) b = if b then .mk 2 ex0 [.mk o ex0 [psF x false, psF y false]] else .mk o ex0 [psF x false, psF y false] := fun b => by
        rw [psF_eq]
        show (if o = 1 then _ else if o = 2 then _ else if o = 5 then _ else if o = 9 ∨ o = 13 then _ else _) = _
        rw [if_neg h1, if_neg h2, if_neg h5, if_pos h9]
        rfl
      have hgi : ∀ b, psF (.mk o ex0 [psF x false, psF y false]) b = if b then .mk 2 ex0 [.mk o ex0 [psF x false, psF y false]] else .mk o ex0 [psF x false, psF y false] := fun b => by
        rw [psF_eq]
        show (if o = 1 then _ else if o = 2 then _ else if o = 5 then _ else if o = 9 ∨ o = 13 then (if b then Fx.mk 2 ex0 [.mk o ex0 [psF (psF x false) false, psF (psF y false) false]] else .mk o ex0 [psF (psF x false) false, psF (psF y false) false]) else _) = _
        rw [if_neg h1, if_neg h2, if_neg h5, if_pos h9, hx.idem, hy.idem]
      have hpd : pdF (.mk o ex0 [psF x false, psF y false]) = true := pd_node h2 h5 (by show (pdF (psF x false) && (pdF (psF y false) && true)) = true; rw [hx.pd, hy.pd]; rfl)
      have hokn : okF (.mk o ex0 [psF x false, psF y false]) := ok_node h1 hlo hhi hkn ⟨hx.ok, hy.ok, trivial⟩
      have hnm : nmF (.mk o ex0 [psF x false, psF y false]) = nmF (.mk o e [x, y]) := by
        rw [nm_other noth0, nm_other hne]
        show nmF (psF x false) ++ (nmF (psF y false) ++ []) = nmF x ++ (nmF y ++ [])
        rw [hx.nm, hy.nm]
      have q1 : dF (psF x false) ≤ x.sz + 0 := hx.dp
      have q2 : dF (psF y false) ≤ y.sz + 0 := hy.dp
      have q3 := fsz_pos x
      have q4 := fsz_pos y
      have hdn : dF (.mk o ex0 [psF x false, psF y false]) ≤ (Fx.mk o e [x, y]).sz := by
        show 1 + max (dF (psF x false)) (max (dF (psF y false)) 0) ≤ _
        omega
      rw [hg0]
      cases b
      · exact ⟨hpd, hgi false, hnm, hokn, by show _ ≤ _ + 0; simpa using hdn⟩
      · refine ⟨?_, ?_, ?_, ok_node (by decide) (by decide) (by decide) (by rfl) ⟨hokn, trivial⟩, ?_⟩
        · show (!((2 : Int) == 5 || ((2 : Int) == 2 && (!(([Fx.mk o ex0 [psF x false, psF y false]].length : Nat) == 1) || (!(o == 9) && !(o == 13))))) && (pdF (.mk o ex0 [psF x false, psF y false]) && true)) = true
          rw [hpd]
          rcases h9 with rfl | rfl <;> rfl
        · show psF (.mk o ex0 [psF x false, psF y false]) true = _
          exact hgi true
        · rw [if_pos rfl, show nmF (Fx.mk 2 ex0 [.mk o ex0 [psF x false, psF y false]]) = nmL [.mk o ex0 [psF x false, psF y false]] from nm_other noth0]
          show nmF (.mk o ex0 [psF x false, psF y false]) ++ [] = _
          rw [hnm, List.append_nil]
        · show 1 + max (dF (.mk o ex0 [psF x false, psF y false])) 0 ≤ _
          simp only [if_pos]
          omega
    have hin : o = 3 ∨ o = 4 ∨ o = 6 ∨ o = 7 ∨ o = 8 ∨ o = 10 ∨ o = 11 ∨ o = 12 := by omega
    obtain ⟨⟨d1, d2, d5, d9, d13⟩, dl, dh, dk⟩ := dual_in (b := b) hin
    obtain ⟨m1, m2, m3, m4, m5⟩ := map_ps (ks := ks) (b := b) (fun u hu => hkids u hu b)
    rw [psF_nary h1 h2 h5 (by omega) (by omega)]
    refine ⟨pd_node d2 d5 m1, ?_, ?_, ok_node d1 dl dh (by rw [List.length_map, dk]; exact hkn) m4, ?_⟩
    · rw [psF_nary d1 d2 d5 d9 d13, m2]; rfl
    · rw [nm_other noth0, nm_other hne, m3]
    · show 1 + dFL (ks.map (fun u => psF u b)) ≤ _
      omega
/-- A pushed valid formula is valid. -/
theorem chk_psF {t : Fx} (hc : chkF t = 0) (hs : t.sz ≤ 60) (b : Bool) : chkF (psF t b) = 0 := by
  have hp := ps_all t.sz t (Nat.le_refl _) (ok_chk hc) hs b
  have hd := hp.dp
  have hz := psF_sz t.sz t (Nat.le_refl _) b
  have hb : (if b = true then 1 else 0) ≤ 1 := by split <;> omega
  exact (chF_ok (psF t b) 1 0 hp.ok (by omega) (by omega) (by omega)).1
end Go.Proofs.Ytnjkphopklbogaa
