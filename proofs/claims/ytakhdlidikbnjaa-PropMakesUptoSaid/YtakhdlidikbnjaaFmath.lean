/- When a composed expression is valid; what its value depends on; layer 6 (prop). -/
import Derived.Test.YtakhdlidikbnjaaFnN
import Derived.Test.YtakhdlidikbnjaaFn9
import Derived.Test.YtakhdlidikbnjaaFn5
namespace Go.Proofs.Ytakhdlidikbnjaa
open Go.RowKit

/-- Every node's operator, variable and number of Kids are right. -/
def nod (o v n : Int) : Prop := (1 ≤ o ∧ o ≤ 10) ∧ (0 ≤ v ∧ v ≤ varM o) ∧ kidL o ≤ n ∧ n ≤ kidM o
mutual
def shp : Ex → Prop | .mk o v ks => nod o v ks.length ∧ shpL ks
def shpL : List Ex → Prop
  | [] => True
  | t :: r => shp t ∧ shpL r
end
theorem flaw0 {o v n d k : Int} : flawS o v n d k = 0 ↔ nod o v n ∧ d ≤ 64 ∧ k ≤ 4096 := by
  unfold flawS nod
  constructor
  · intro h
    repeat' split at h
    all_goals first | omega | (exact absurd h (by decide))
  · rintro ⟨⟨h1, h2, h3⟩, h4, h5⟩
    rw [if_neg (by omega), if_neg (by omega), if_neg (by omega), if_neg (by omega), if_neg (by omega)]
theorem w64 {x : Int} (h0 : 0 ≤ x) (h1 : x ≤ 1000000000000) : wrap64 x = x := by unfold wrap64; omega
mutual
theorem chk_ok : ∀ (t : Ex) (d k : Int), shp t → d + t.dp ≤ 65 → k + t.sz ≤ 4096 → 0 ≤ k → chk t d k = (0, k + t.sz)
  | .mk o v ks, d, k, h, hd, hk, h0 => by
    have hsz := sz_eq (.mk o v ks)
    have hdp := dp_eq (.mk o v ks)
    have e1 : (Ex.mk o v ks).ks = ks := rfl
    rw [e1] at hsz hdp
    rw [chk_eq]
    show (if flawS o v ks.length d (wrap64 (k + 1)) = 0 then chkL ks (d + 1) (wrap64 (k + 1)) else _) = _
    rw [w64 (by omega) (by omega), if_pos (flaw0.2 ⟨h.1, by omega, by omega⟩), chkL_ok ks (d + 1) (k + 1) h.2 (by omega) (by omega) (by omega), hsz]
    congr 1
    omega
theorem chkL_ok : ∀ (l : List Ex) (d k : Int), shpL l → d + dpL l ≤ 65 → k + szL l ≤ 4096 → 0 ≤ k → chkL l d k = (0, k + szL l)
  | [], d, k, _, _, _, _ => by simp [chkL, szL]
  | t :: r, d, k, h, hd, hk, h0 => by
    have h1 : dpL (t :: r) = max t.dp (dpL r) := rfl
    have h2 : szL (t :: r) = t.sz + szL r := rfl
    have h3 : chkL (t :: r) d k = if (chk t d k).1 = 0 then chkL r d (chk t d k).2 else chk t d k := rfl
    rw [h3, chk_ok t d k h.1 (by omega) (by omega) h0, if_pos rfl, chkL_ok r d _ h.2 (by omega) (by simp; omega) (by simp; omega), h2]
    congr 1
    simp
    omega
end
mutual
theorem shp_of : ∀ (t : Ex) (d k : Int), (chk t d k).1 = 0 → shp t
  | .mk o v ks, d, k, h => by
    rw [chk_eq] at h
    have h' : (if flawS o v ks.length d (wrap64 (k + 1)) = 0 then chkL ks (d + 1) (wrap64 (k + 1)) else (flawS o v ks.length d (wrap64 (k + 1)), wrap64 (k + 1))).1 = 0 := h
    by_cases hf : flawS o v ks.length d (wrap64 (k + 1)) = 0
    · rw [if_pos hf] at h'
      exact ⟨(flaw0.1 hf).1, shpL_of ks _ _ h'⟩
    · rw [if_neg hf] at h'
      exact absurd h' hf
theorem shpL_of : ∀ (l : List Ex) (d k : Int), (chkL l d k).1 = 0 → shpL l
  | [], _, _, _ => trivial
  | t :: r, d, k, h => by
    have h2 : (if (chk t d k).1 = 0 then chkL r d (chk t d k).2 else chk t d k).1 = 0 := h
    by_cases hc : (chk t d k).1 = 0
    · rw [if_pos hc] at h2
      exact ⟨shp_of t d k hc, shpL_of r _ _ h2⟩
    · rw [if_neg hc] at h2
      exact absurd h2 hc
end
theorem chkE_ok {t : Ex} (h : shp t) (hd : t.dp ≤ 64) (hs : t.sz ≤ 4096) : chkE t = 0 := by
  unfold chkE
  rw [chk_ok t 1 0 h (by omega) (by omega) (by omega)]
theorem evalS_ok {t : Ex} (l : List Bool) (h : shp t) (hd : t.dp ≤ 64) (hs : t.sz ≤ 4096) : evalS t l = val l t := by
  unfold evalS; rw [chkE_ok h hd hs]; simp
/-! ### The composed ones -/
def Fit (t : Ex) : Prop := shp t ∧ t.sz ≤ 400 ∧ t.dp ≤ 60
theorem Fit.not {a : Ex} (h : Fit a) : shp (.mk 4 0 [a]) ∧ (Ex.mk 4 0 [a]).dp ≤ 61 ∧ (Ex.mk 4 0 [a]).sz ≤ 401 := by
  obtain ⟨h1, h2, h3⟩ := h
  refine ⟨⟨by unfold nod varM kidL kidM; simp, h1, trivial⟩, ?_, ?_⟩
  · show dpL [a] + 1 ≤ _; simp [dpL]; omega
  · show 1 + szL [a] ≤ _; simp [szL]; omega
theorem two_fit {a b : Ex} {o : Int} (ho : o = 5 ∨ o = 6 ∨ o = 7 ∨ o = 8 ∨ o = 9) (ha : shp a ∧ a.dp ≤ 61 ∧ a.sz ≤ 401) (hb : Fit b) : shp (.mk o 0 [a, b]) ∧ (Ex.mk o 0 [a, b]).dp ≤ 64 ∧ (Ex.mk o 0 [a, b]).sz ≤ 4096 := by
  obtain ⟨h1, h2, h3⟩ := ha
  obtain ⟨k1, k2, k3⟩ := hb
  refine ⟨⟨?_, h1, k1, trivial⟩, ?_, ?_⟩
  · rcases ho with rfl | rfl | rfl | rfl | rfl <;> (unfold nod varM kidL kidM; simp)
  · show max a.dp (max b.dp 0) + 1 ≤ _; omega
  · show 1 + (a.sz + (b.sz + 0)) ≤ _; omega
theorem Fit.up {a : Ex} (h : Fit a) : shp a ∧ a.dp ≤ 61 ∧ a.sz ≤ 401 := ⟨h.1, by have := h.2.2; omega, by have := h.2.1; omega⟩
theorem val_not (l : List Bool) (a : Ex) : val l (.mk 4 0 [a]) = !(val l a) := rfl
theorem val_and (l : List Bool) (a b : Ex) : val l (.mk 5 0 [a, b]) = (val l a && val l b) := by
  show valO 5 0 [val l a, val l b] l = _
  cases val l a <;> cases val l b <;> rfl
theorem val_or (l : List Bool) (a b : Ex) : val l (.mk 6 0 [a, b]) = (val l a || val l b) := by
  show valO 6 0 [val l a, val l b] l = _
  cases val l a <;> cases val l b <;> rfl
theorem val_xor (l : List Bool) (a b : Ex) : val l (.mk 7 0 [a, b]) = (val l a != val l b) := by
  show valO 7 0 [val l a, val l b] l = _
  cases val l a <;> cases val l b <;> rfl
theorem val_imp (l : List Bool) (a b : Ex) : val l (.mk 8 0 [a, b]) = (!(val l a) || val l b) := rfl
theorem val_iff (l : List Bool) (a b : Ex) : val l (.mk 9 0 [a, b]) = (val l a == val l b) := rfl
theorem val_ite (l : List Bool) (a b : Ex) : val l (.mk 10 0 [a, b, b]) = val l b := by
  show valO 10 0 [val l a, val l b, val l b] l = _
  cases val l a <;> cases val l b <;> rfl
theorem ite_fit {a b : Ex} (ha : Fit a) (hb : Fit b) : shp (.mk 10 0 [a, b, b]) ∧ (Ex.mk 10 0 [a, b, b]).dp ≤ 64 ∧ (Ex.mk 10 0 [a, b, b]).sz ≤ 4096 := by
  obtain ⟨h1, h2, h3⟩ := ha
  obtain ⟨k1, k2, k3⟩ := hb
  refine ⟨⟨by unfold nod varM kidL kidM; simp, h1, k1, k1, trivial⟩, ?_, ?_⟩
  · show max a.dp (max b.dp (max b.dp 0)) + 1 ≤ _; omega
  · show 1 + (a.sz + (b.sz + (b.sz + 0))) ≤ _; omega
/-! ### The value depends on the variables alone -/
mutual
theorem val_flip (l m : List Bool) (hl : m.length = l.length) (k : Nat) (hm : ∀ i, i ≠ k → m.getD i false = l.getD i false) : ∀ t : Ex, shp t → ¬ (k : Int) ∈ vrs t → val m t = val l t
  | .mk o v ks, h, hk => by
    have hk1 : ¬ (k : Int) ∈ (if o = 3 then [v] else []) := fun e => hk (List.mem_append_left _ e)
    have hk2 : ¬ (k : Int) ∈ vrsL ks := fun e => hk (List.mem_append_right _ e)
    show valO o v (valL m ks) m = valO o v (valL l ks) l
    rw [valL_flip l m hl k hm ks h.2 hk2]
    unfold valO
    have hv := h.1.2.1.1
    by_cases h3 : o = 3
    · subst h3
      have hne : v.toNat ≠ k := fun e => hk1 (by rw [if_pos rfl]; simp; omega)
      rw [hl, hm _ hne]
    · simp only [h3, if_false]
theorem valL_flip (l m : List Bool) (hl : m.length = l.length) (k : Nat) (hm : ∀ i, i ≠ k → m.getD i false = l.getD i false) : ∀ ks : List Ex, shpL ks → ¬ (k : Int) ∈ vrsL ks → valL m ks = valL l ks
  | [], _, _ => rfl
  | t :: r, h, hk => by
    show val m t :: valL m r = val l t :: valL l r
    rw [val_flip l m hl k hm t h.1 (fun e => hk (List.mem_append_left _ e)), valL_flip l m hl k hm r h.2 (fun e => hk (List.mem_append_right _ e))]
end
theorem flip_get (l : List Bool) (k : Nat) (b : Bool) : ∀ i, i ≠ k → (l.set k b).getD i false = l.getD i false := fun i hi => by
  simp [List.getD, List.getElem?_set_ne (Ne.symm hi)]
theorem mem_varS {t : Ex} (h : chkE t = 0) (x : Int) : x ∈ varS t ↔ x ∈ vrs t := by unfold varS; rw [if_pos h, set_mem]
end Go.Proofs.Ytakhdlidikbnjaa
