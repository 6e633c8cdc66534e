/- Right as the program reckons it, and as the specification does; layer 42 (sched). -/
import Derived.Test.YtjohdkcgodaeiaaQ8
import Derived.Test.YtjohdkcgodaeiaaM1
namespace Go.Proofs.Ytjohdkcgodaeiaa
open Go.RowKit

def cntPart (K : List (Int × List Int)) (m : Nat) (p : Int) : Nat := ((List.range m).filter fun i => decide ((kAt K i).1 = p)).length
def cntOut (K : List (Int × List Int)) (m : Nat) (v : Int) : Nat := ((List.range m).filter fun i => mem (kAt K i).2 v).length
theorem cntPart_succ (K : List (Int × List Int)) (m : Nat) (p : Int) : cntPart K (m + 1) p = cntPart K m p + if (kAt K m).1 = p then 1 else 0 := by
  unfold cntPart
  rw [List.range_succ, List.filter_append, List.length_append]
  by_cases h : (kAt K m).1 = p <;> simp [h]
theorem cntOut_succ (K : List (Int × List Int)) (m : Nat) (v : Int) : cntOut K (m + 1) v = cntOut K m v + if mem (kAt K m).2 v then 1 else 0 := by
  unfold cntOut
  rw [List.range_succ, List.filter_append, List.length_append]
  cases h : mem (kAt K m).2 v <;> simp [h]
theorem cntPart_le (K : List (Int × List Int)) (m : Nat) (p : Int) : cntPart K m p ≤ m := by
  unfold cntPart
  have := List.length_filter_le (fun i => decide ((kAt K i).1 = p)) (List.range m)
  rwa [List.length_range] at this
theorem cntOut_le (K : List (Int × List Int)) (m : Nat) (p : Int) : cntOut K m p ≤ m := by
  unfold cntOut
  have := List.length_filter_le (fun i => mem (kAt K i).2 p) (List.range m)
  rwa [List.length_range] at this
/-- the steps r's conditions. -/
def okOut (rows : List Rw) (o : List Int) (K : List (Int × List Int)) (i : Nat) (v : Int) : Prop := v ∈ o ∧ ∀ k, i < k → k < K.length → v ∉ pr rows (kAt K k).1.toNat
def QR (rows : List Rw) (o : List Int) (K : List (Int × List Int)) : Prop :=
  K.length = rows.length ∧ (∀ p, p < rows.length → cntPart K K.length (p : Int) = 1) ∧ (∀ v ∈ o, K.length = 0 ∨ cntOut K K.length v = 1) ∧ ∀ i, i < K.length → ∀ v ∈ (kAt K i).2, okOut rows o K i v
theorem sub_perm : ∀ (a b : List Int), a.Nodup → (∀ x ∈ a, x ∈ b) → b.length ≤ a.length → a.Perm b
  | [], b, _, _, h => by
    have : b = [] := List.eq_nil_of_length_eq_zero (by simpa using h)
    rw [this]
  | x :: a, b, hn, hs, hl => by
    rw [List.nodup_cons] at hn
    obtain ⟨s, u, rfl⟩ := List.append_of_mem (hs x (List.mem_cons_self ..))
    have ih := sub_perm a (s ++ u) hn.2 (fun y hy => by
      have h1 := hs y (List.mem_cons_of_mem _ hy)
      have h2 : y ≠ x := fun e => hn.1 (e ▸ hy)
      rw [List.mem_append, List.mem_cons] at h1
      rw [List.mem_append]
      rcases h1 with h1 | h1 | h1
      · exact .inl h1
      · exact absurd h1 h2
      · exact .inr h1) (by simp at hl ⊢; omega)
    exact (List.Perm.cons x ih).trans List.perm_middle.symm
def parR (n : Nat) : List Int := (List.range n).map fun i : Nat => (i : Int)
theorem parR_mem {n : Nat} {x : Int} : x ∈ parR n ↔ 0 ≤ x ∧ x < (n : Int) := by
  unfold parR
  rw [List.mem_map]
  constructor
  · rintro ⟨i, hi, rfl⟩
    have := List.mem_range.1 hi
    omega
  · rintro ⟨h1, h2⟩
    exact ⟨x.toNat, List.mem_range.2 (by omega), by omega⟩
theorem parR_nodup (n : Nat) : (parR n).Nodup := by
  unfold parR List.Nodup
  rw [List.pairwise_map]
  exact List.Pairwise.imp (fun h e => h (by omega)) List.nodup_range
theorem cnt_map (K : List (Int × List Int)) (p : Int) : cntPart K K.length p = (K.map (·.1)).count p := by
  have e : K.map (·.1) = (List.range K.length).map fun i => (kAt K i).1 := by
    apply List.ext_getElem?
    intro i
    rw [List.getElem?_map, List.getElem?_map]
    by_cases h : i < K.length
    · rw [List.getElem?_range h, List.getElem?_eq_getElem h]
      unfold kAt
      simp [List.getD, List.getElem?_eq_getElem h]
    · rw [List.getElem?_eq_none (by omega), List.getElem?_eq_none (by rw [List.length_range]; omega)]; rfl
  rw [e, List.count, List.countP_map, List.countP_eq_length_filter]
  unfold cntPart
  congr 1
theorem fst_at {K : List (Int × List Int)} {i : Nat} (h : i < K.length) : (K.map (·.1))[i]'(by simpa using h) = (kAt K i).1 := by
  unfold kAt
  simp [List.getD, List.getElem?_eq_getElem h]
theorem comp_perm {n : Nat} {K : List (Int × List Int)} : CompP n K ↔ (K.map (·.1)).Perm (parR n) := by
  constructor
  · rintro ⟨h1, h2⟩
    refine sub_perm _ _ ?_ (fun x hx => ?_) (by unfold parR; simp; omega)
    · rw [List.Nodup, List.pairwise_iff_getElem]
      intro i j hi hj hij
      have hi' : i < K.length := by simpa using hi
      have hj' : j < K.length := by simpa using hj
      rw [fst_at hi', fst_at hj']
      exact (h2 j hj').2.2 i hij
    · obtain ⟨i, hi, e⟩ := List.getElem_of_mem hx
      have hi' : i < K.length := by simpa using hi
      rw [fst_at hi'] at e
      rw [← e, parR_mem]
      exact ⟨(h2 i hi').1, (h2 i hi').2.1⟩
  · intro h
    have hl : K.length = n := by have := h.length_eq; unfold parR at this; simpa using this
    refine ⟨hl, fun i hi => ?_⟩
    have hm : (kAt K i).1 ∈ parR n := h.mem_iff.1 (by rw [← fst_at hi]; exact List.getElem_mem _)
    rw [parR_mem] at hm
    refine ⟨hm.1, hm.2, fun j hj e => ?_⟩
    have hn : (K.map (·.1)).Nodup := h.nodup_iff.2 (parR_nodup n)
    rw [List.Nodup, List.pairwise_iff_getElem] at hn
    have hj' : j < K.length := by omega
    have := hn j i (by simpa using hj') (by simpa using hi) hj
    rw [fst_at hj', fst_at hi] at this
    exact this e
theorem comp_cnt {n : Nat} {K : List (Int × List Int)} : CompP n K ↔ K.length = n ∧ ∀ p, p < n → cntPart K K.length (p : Int) = 1 := by
  rw [comp_perm]
  constructor
  · intro h
    refine ⟨by have := h.length_eq; unfold parR at this; simpa using this, fun p hp => ?_⟩
    rw [cnt_map, h.count_eq]
    have h1 := List.nodup_iff_count.1 (parR_nodup n) (p : Int)
    have h2 := List.count_pos_iff.2 (parR_mem.2 ⟨by omega, by omega⟩ : (p : Int) ∈ parR n)
    omega
  · rintro ⟨h1, h2⟩
    refine (sub_perm _ _ (parR_nodup n) (fun x hx => ?_) (by unfold parR; simp; omega)).symm
    rw [parR_mem] at hx
    obtain ⟨p, rfl⟩ : ∃ p : Nat, x = (p : Int) := ⟨x.toNat, by omega⟩
    have h3 := h2 p (by omega)
    rw [cnt_map] at h3
    exact List.count_pos_iff.1 (by omega)
theorem count_all (K : List (Int × List Int)) (v : Int) : ∀ m, m ≤ K.length → (allO K m).count v = cntOut K m v := by
  intro m
  induction m with
  | zero => intro _; simp [allO, cntOut]
  | succ m ih =>
    intro hm
    rw [allO_succ (by omega), List.count_append, ih (by omega), cntOut_succ]
    congr 1
    have h1 := List.nodup_iff_count.1 (inc_nodup (set_inc (kAt K m).2)) v
    by_cases h : v ∈ (kAt K m).2
    · have h2 := List.count_pos_iff.2 ((set_mem _ _).2 h)
      rw [if_pos (memT.2 h)]; omega
    · have h2 : v ∉ setL (kAt K m).2 := fun q => h ((set_mem _ _).1 q)
      rw [if_neg (by rw [memT]; exact h)]
      exact List.count_eq_zero.2 h2
theorem srt_perm (l : List Int) : (srt l).Perm l := by
  unfold srt
  exact List.mergeSort_perm ..
theorem srt_sorted (l : List Int) : (srt l).Pairwise (· ≤ ·) := by
  unfold srt
  have h := List.pairwise_mergeSort (le := fun x y : Int => decide (x ≤ y)) (by intro a b c; simp; omega) (by intro a b; simp; omega) l
  exact List.Pairwise.imp (fun h => by simpa using h) h
theorem sort_iff (a o : List Int) : srt a = setL o ↔ ∀ v, a.count v = if v ∈ o then 1 else 0 := by
  have hc : ∀ v, (setL o).count v = if v ∈ o then 1 else 0 := fun v => by
    have h1 := List.nodup_iff_count.1 (inc_nodup (set_inc o)) v
    by_cases h : v ∈ o
    · have h2 := List.count_pos_iff.2 ((set_mem _ _).2 h)
      rw [if_pos h]; omega
    · rw [if_neg h]
      exact List.count_eq_zero.2 (fun q => h ((set_mem _ _).1 q))
  constructor
  · intro h v
    rw [← hc v, ← h, (srt_perm a).count_eq]
  · intro h
    have hp : (srt a).Perm (setL o) := (srt_perm a).trans (List.perm_iff_count.2 (fun v => by rw [h v, hc v]))
    exact List.Perm.eq_of_pairwise (le := (· ≤ ·)) (fun x y _ _ h1 h2 => Int.le_antisymm h1 h2) (srt_sorted a) (inc_le (set_inc o)) hp
theorem last_le {rows : List Rw} {K : List (Int × List Int)} {v : Int} {i : Nat} (_hl : i < K.length) : lastK rows (ahK K) v K.length ≤ i ↔ ∀ k, i < k → k < K.length → v ∉ pr rows (kAt K k).1.toNat := by
  have h := last_iff (rows := rows) (AH := ahK K) (v := v) K.length (lastK rows (ahK K) v K.length)
  have h := h.1 rfl
  constructor
  · intro hq k hk hkl
    rw [← ahK_at hkl]
    rcases h with ⟨_, _, h3⟩ | ⟨_, h3⟩
    · exact h3 k (by omega) hkl
    · exact h3 k hkl
  · intro hall
    rcases h with ⟨h1, h2, _⟩ | ⟨h1, _⟩
    · rcases Nat.lt_or_ge i (lastK rows (ahK K) v K.length) with q | q
      · have := hall _ q h1
        rw [← ahK_at h1] at this
        exact absurd h2 this
      · exact q
    · omega
theorem pr_qr (rows : List Rw) (o : List Int) (K : List (Int × List Int)) : PR rows o K ↔ QR rows o K := by
  unfold PR QR
  rw [comp_cnt]
  constructor
  · rintro ⟨⟨h1, h2⟩, h3⟩
    refine ⟨h1, h2, ?_⟩
    rcases h3 with h3 | ⟨h3, h4⟩
    · exact ⟨fun v _ => .inl (by omega), fun i hi => by omega⟩
    · rw [sort_iff] at h4
      refine ⟨fun v hv => .inr ?_, fun i hi v hv => ⟨?_, (last_le hi).1 (h3 i hi v hv)⟩⟩
      · rw [← count_all K v _ (Nat.le_refl _), h4 v, if_pos hv]
      · have h5 := h4 v
        by_cases q : v ∈ o
        · exact q
        · rw [if_neg q, List.count_eq_zero] at h5
          exfalso
          apply h5
          unfold allO
          rw [List.take_length, List.mem_flatMap]
          refine ⟨kAt K i, ?_, (set_mem _ _).2 hv⟩
          unfold kAt
          simp [List.getD, List.getElem?_eq_getElem hi]
  · rintro ⟨h1, h2, h3, h4⟩
    refine ⟨⟨h1, h2⟩, ?_⟩
    by_cases h0 : rows.length = 0
    · exact .inl h0
    · refine .inr ⟨fun i hi v hv => (last_le hi).2 (h4 i hi v hv).2, ?_⟩
      rw [sort_iff]
      intro v
      rw [count_all K v _ (Nat.le_refl _)]
      by_cases q : v ∈ o
      · rw [if_pos q]
        rcases h3 v q with h | h
        · omega
        · exact h
      · rw [if_neg q]
        unfold cntOut
        rw [List.length_eq_zero_iff, List.filter_eq_nil_iff]
        intro i hi hm
        exact q (h4 i (List.mem_range.1 hi) v (memT.1 hm)).1
end Go.Proofs.Ytjohdkcgodaeiaa
