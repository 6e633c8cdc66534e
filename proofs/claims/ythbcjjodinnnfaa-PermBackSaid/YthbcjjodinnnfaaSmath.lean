/- Lists: the swaps that lead from one order to another; how many pairs stand the other way round. -/
import Derived.Test.YthbcjjodinnnfaaFn14
namespace Go.Proofs.Ythbcjjodinnnfaa

theorem place_mem' {l : List Int} {x : Int} (h : x ∈ l) : placeL l x = (l.idxOf x : Nat) := by
  have hk : l.idxOf x < l.length := List.idxOf_lt_length_of_mem h
  refine place_at hk (fun j hj e => ?_) ?_
  · rw [li_get (by omega)] at e
    have := List.not_of_lt_findIdx (p := fun y => y == x) (xs := l) (i := j) (by simpa [List.idxOf] using hj)
    simp [e] at this
  · rw [li_get hk]; simp
theorem place_not {l : List Int} {x : Int} (h : x ∉ l) : placeL l x = -1 := place_no fun j hj e => h (by rw [← e, li_get hj]; simp)
theorem idx_app {p r : List Int} {v : Int} (h : v ∉ p) : (p ++ r).idxOf v = p.length + r.idxOf v := by
  rw [List.idxOf_append, if_neg h]; omega
theorem erase_td {r : List Int} {v : Int} : r.take (r.idxOf v) ++ r.drop (r.idxOf v + 1) = r.erase v := by
  rw [← List.eraseIdx_eq_take_drop_succ, List.erase_eq_eraseIdx_of_idxOf rfl]
/-- What the steps f down to 1 above i hand out. -/
def downs (i f k : Nat) : List Int := (List.range k).map fun j => ((i + f - 1 - j : Nat) : Int)
theorem downs_succ (i f k : Nat) : downs i f (k + 1) = downs i f k ++ [((i + f - 1 - k : Nat) : Int)] := by unfold downs; rw [List.range_succ]; simp
theorem downs_len (i f k : Nat) : (downs i f k).length = k := by unfold downs; simp
/-- The swaps that bring rest to b, whose first place is i. -/
def stp : Nat → List Int → List Int → List Int
  | _, _, [] => []
  | i, r, v :: bs => downs i (r.idxOf v) (r.idxOf v) ++ stp (i + 1) (r.erase v) bs
/-- r is an order of what is in b. -/
def Like (r b : List Int) : Prop := r.Nodup ∧ b.Nodup ∧ (∀ x, x ∈ r ↔ x ∈ b)
theorem Like.mem {r bs : List Int} {v : Int} (h : Like r (v :: bs)) : v ∈ r := (h.2.2 v).2 (by simp)
theorem Like.next {r bs : List Int} {v : Int} (h : Like r (v :: bs)) : Like (r.erase v) bs := by
  obtain ⟨h1, h2, h3⟩ := h
  rw [List.nodup_cons] at h2
  refine ⟨h1.erase v, h2.2, fun x => ?_⟩
  rw [h1.mem_erase_iff, h3, List.mem_cons]
  constructor
  · rintro ⟨a, b | b⟩
    · exact absurd b a
    · exact b
  · intro a
    exact ⟨fun e => h2.1 (e ▸ a), .inr a⟩
theorem Like.nil {r : List Int} (h : Like r []) : r = [] := by
  cases r with
  | nil => rfl
  | cons x t => exact absurd ((h.2.2 x).1 (by simp)) (by simp)
theorem stp_swaps : ∀ (b r : List Int) (p : List Int), Like r b → ∀ x ∈ stp p.length r b, ∃ n : Nat, x = n ∧ n + 1 < (p ++ r).length
  | [], r, p, h, x, hx => by simp [stp] at hx
  | v :: bs, r, p, h, x, hx => by
    have hm := h.mem
    have hlt : r.idxOf v < r.length := List.idxOf_lt_length_of_mem hm
    unfold stp at hx
    rw [List.mem_append] at hx
    rcases hx with hx | hx
    · unfold downs at hx
      rw [List.mem_map] at hx
      obtain ⟨j, hj, rfl⟩ := hx
      rw [List.mem_range] at hj
      exact ⟨_, rfl, by rw [List.length_append]; omega⟩
    · have := stp_swaps bs (r.erase v) (p ++ [v]) h.next x (by simpa using hx)
      obtain ⟨n, e, hn⟩ := this
      refine ⟨n, e, ?_⟩
      rw [List.length_append, List.length_append, List.length_erase_of_mem hm] at hn
      rw [List.length_append]
      simp at hn; omega
/-- The pairs of l that f puts the other way round. -/
def inv (f : Int → Int) : List Int → Nat
  | [] => 0
  | x :: t => t.countP (fun y => decide (f y < f x)) + inv f t
theorem inv_app (f : Int → Int) (v : Int) (d : List Int) (hd : ∀ y ∈ d, ¬ f y < f v) : ∀ t : List Int, (∀ x ∈ t, f v < f x) → inv f (t ++ v :: d) = t.length + inv f (t ++ d)
  | [], _ => by
    show d.countP _ + inv f d = _
    rw [List.countP_eq_zero.2 (fun y hy => by simpa using hd y hy)]; simp
  | x :: t, h => by
    have ih := inv_app f v d hd t (fun y hy => h y (by simp [hy]))
    show (t ++ v :: d).countP _ + inv f (t ++ v :: d) = (t.length + 1) + ((t ++ d).countP _ + inv f (t ++ d))
    rw [ih, List.countP_append, List.countP_cons, List.countP_append, if_pos (by simpa using h x (by simp))]
    omega
theorem inv_congr {f g : Int → Int} : ∀ {l : List Int}, (∀ x ∈ l, ∀ y ∈ l, (f y < f x ↔ g y < g x)) → inv f l = inv g l
  | [], _ => rfl
  | x :: t, h => by
    have ih := inv_congr (f := f) (g := g) (l := t) (fun a ha b hb => h a (by simp [ha]) b (by simp [hb]))
    show t.countP _ + inv f t = t.countP _ + inv g t
    rw [ih, List.countP_congr (p := fun y => decide (f y < f x)) (q := fun y => decide (g y < g x)) (fun y hy => by simpa using h x (by simp) y (by simp [hy]))]
theorem stp_len : ∀ (b r : List Int) (i : Nat), Like r b → (stp i r b).length = inv (placeL b) r
  | [], r, i, h => by rw [h.nil]; rfl
  | v :: bs, r, i, h => by
    have hm := h.mem
    have hlt : r.idxOf v < r.length := List.idxOf_lt_length_of_mem hm
    have hn := h.next
    have ih := stp_len bs (r.erase v) (i + 1) hn
    have hE := erase_td (r := r) (v := v)
    have hR : r = r.take (r.idxOf v) ++ v :: r.drop (r.idxOf v + 1) := by
      have h1 : r.drop (r.idxOf v) = v :: r.drop (r.idxOf v + 1) := by rw [List.drop_eq_getElem_cons hlt]; simp
      rw [← h1, List.take_append_drop]
    have hp0 : placeL (v :: bs) v = 0 := by rw [place_mem' (by simp)]; simp
    have hpn : ∀ x ∈ r.erase v, placeL (v :: bs) x = placeL bs x + 1 := fun x hx => by
      have hxb : x ∈ bs := (hn.2.2 x).1 hx
      have hne : x ≠ v := fun e => by have := h.2.1; rw [List.nodup_cons] at this; exact this.1 (e ▸ hxb)
      rw [place_mem' hxb, place_mem' (by simp [hxb]), List.idxOf_cons, show (v == x) = false by simpa using fun e => hne e.symm]; simp
    have hge : ∀ x ∈ r.erase v, 0 ≤ placeL bs x := fun x hx => by rw [place_mem' ((hn.2.2 x).1 hx)]; omega
    have hT : ∀ x ∈ r.take (r.idxOf v), x ∈ r.erase v := fun x hx => by rw [← hE]; simp [hx]
    have hD : ∀ x ∈ r.drop (r.idxOf v + 1), x ∈ r.erase v := fun x hx => by rw [← hE]; simp [hx]
    show (downs i _ _ ++ stp (i + 1) (r.erase v) bs).length = _
    rw [List.length_append, downs_len, ih]
    have key := inv_app (placeL (v :: bs)) v (r.drop (r.idxOf v + 1)) (fun y hy => by rw [hp0, hpn y (hD y hy)]; have := hge y (hD y hy); omega) (r.take (r.idxOf v)) (fun x hx => by rw [hp0, hpn x (hT x hx)]; have := hge x (hT x hx); omega)
    rw [← hR, hE, List.length_take] at key
    rw [key, inv_congr (f := placeL (v :: bs)) (g := placeL bs) (fun x hx y hy => by rw [hpn x hx, hpn y hy]; omega)]
    omega

theorem right_nodup {l : List Int} (h : okTo l l.length) : l.Nodup := by
  rw [List.nodup_iff_pairwise_ne, List.pairwise_iff_getElem]
  intro i j hi hj hij
  have := (h j hj).2 i hij
  rw [li_get hi, li_get hj] at this
  exact this
theorem right_mem {l : List Int} (h : okTo l l.length) (x : Int) : x ∈ l ↔ 0 ≤ x ∧ x < l.length := by
  constructor
  · intro hx
    obtain ⟨k, hk, e⟩ := List.getElem_of_mem hx
    have := (h k hk).1
    rw [li_get hk, e] at this
    exact this
  · rintro ⟨h1, h2⟩
    obtain ⟨n, rfl⟩ := Int.eq_ofNat_of_zero_le h1
    obtain ⟨k, hk, e⟩ := onto h (x := n) (by omega)
    rw [← e, li_get hk]; simp
theorem like_right {a b : List Int} (ha : okTo a a.length) (hb : okTo b b.length) (h : a.length = b.length) : Like a b :=
  ⟨right_nodup ha, right_nodup hb, fun x => by rw [right_mem ha, right_mem hb, h]⟩
/-- The swaps down from place p + f bring what stands there to place p. -/
theorem down_front {p r : List Int} {v : Int} (hv : v ∈ r) : downL (p ++ r) (p.length + r.idxOf v) (r.idxOf v) = (p ++ [v]) ++ r.erase v := by
  have hlt : r.idxOf v < r.length := List.idxOf_lt_length_of_mem hv
  have hE := erase_td (r := r) (v := v)
  rw [← hE]
  apply li_ext
  · rw [downL_len]; simp; omega
  · intro j hj
    rw [downL_len, List.length_append] at hj
    rw [li_down _ _ _ (by omega) (by rw [List.length_append]; omega)]
    have e0 : p.length + r.idxOf v - r.idxOf v = p.length := by omega
    rw [e0]
    unfold li
    simp only [List.getD, List.append_assoc, List.getElem?_append, List.length_take, List.length_singleton, List.getElem?_take, List.getElem?_drop, List.getElem?_singleton]
    have e1 : min (r.idxOf v) r.length = r.idxOf v := by omega
    rw [e1]
    by_cases a : j < p.length
    · rw [if_neg (by omega), if_neg (by omega), if_pos a, if_pos a]
    · rw [if_neg a, if_neg a]
      by_cases b : j = p.length
      · have q1 : ¬ p.length + r.idxOf v < p.length := by omega
        have q2 : p.length + r.idxOf v - p.length = r.idxOf v := by omega
        have q3 : j - p.length = 0 := by omega
        rw [if_neg (by omega), if_pos b, if_neg q1, q2, q3, List.getElem?_eq_getElem hlt]; simp
      · rw [if_neg b, if_neg (show ¬ j - p.length < 1 by omega)]
        by_cases c : j ≤ p.length + r.idxOf v
        · rw [if_pos ⟨by omega, c⟩, if_neg (by omega), if_pos (show j - p.length - 1 < r.idxOf v by omega), if_pos (by omega)]
          congr 2; omega
        · rw [if_neg (by omega), if_neg (show ¬ j - p.length - 1 < r.idxOf v by omega)]
          congr 2; omega
end Go.Proofs.Ythbcjjodinnnfaa
