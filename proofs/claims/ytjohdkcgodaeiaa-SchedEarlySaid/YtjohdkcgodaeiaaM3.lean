/- What is true of the plan as a list; layer 42 (sched). -/
import Derived.Test.YtjohdkcgodaeiaaM2
import Derived.Test.YtjohdkcgodaeiaaQ5
import Derived.Test.YtjohdkcgodaeiaaWk1
namespace Go.Proofs.Ytjohdkcgodaeiaa
open Go.RowKit

theorem last_lt {rows : List Rw} {AH : List Nat} {v : Int} {n : Nat} (h : 0 < n) : lastK rows AH v n < n := by
  rcases (last_iff (rows := rows) (AH := AH) (v := v) n _).1 rfl with ⟨h1, _⟩ | ⟨h1, _⟩
  · exact h1
  · rw [h1]; exact h
theorem one_filter {n q : Nat} (h : q < n) : ((List.range n).filter fun i => decide (q = i)).length = 1 := by
  have e : ((List.range n).filter fun i => decide (q = i)) = (List.range n).filter fun i => i == q := by
    apply List.filter_congr
    intro i _
    rw [Bool.eq_iff_iff, decide_eq_true_iff, beq_iff_eq]
    exact eq_comm
  rw [e, ← List.count_eq_length_filter]
  have h1 := List.nodup_iff_count.1 (List.nodup_range (n := n)) q
  have h2 := List.count_pos_iff.2 (List.mem_range.2 h)
  omega
structure PlanOk (rows : List Rw) (o : List Int) (K : List (Int × List Int)) : Prop where
  len : K.length = rows.length
  right : PR rows o K
  has : ∀ i, i < K.length → 0 < i → ∀ v ∈ (kAt K i).2, v ∈ pr rows (kAt K i).1.toNat
  inc : ∀ i, i < K.length → Inc (kAt K i).2
  outs : ∀ v, v ∈ outsU K K.length ↔ v ∈ o ∧ 0 < K.length
theorem plan_ok (rows : List Rw) (o : List Int) : PlanOk rows o (planR rows o) := by
  rw [plan_eq]
  have hn := plan_n rows o
  obtain ⟨AH, hAH⟩ : ∃ AH, ordR rows (setL o) rows.length (List.range rows.length) [] = AH := ⟨_, rfl⟩
  have hp : AH.Perm (List.range rows.length) := by
    obtain ⟨L, h1, h2⟩ := ord_pre rows (setL o) rows.length (List.range rows.length) [] (by rw [List.length_range])
    rw [← hAH, h1, List.nil_append]; exact h2
  have hK : refPlan rows o = (List.range AH.length).map (refStep rows (setL o) AH) := by unfold refPlan; rw [hAH]
  obtain ⟨K, hKe⟩ : ∃ K, refPlan rows o = K := ⟨_, rfl⟩
  rw [hKe] at hn hK ⊢
  have hl : AH.length = rows.length := by rw [hp.length_eq, List.length_range]
  have hat : ∀ i, i < K.length → kAt K i = refStep rows (setL o) AH i := fun i hi => by
    unfold kAt
    rw [hK]
    simp [List.getD, show i < AH.length by omega]
  have hfst : K.map (·.1) = AH.map fun i : Nat => (i : Int) := by
    rw [hK, List.map_map]
    apply List.ext_getElem (by simp)
    intro i h1 h2
    have h3 : i < AH.length := by simpa using h2
    simp [refStep, List.getD, List.getElem?_eq_getElem h3]
  have hah : ahK K = AH := by
    have e : ahK K = (K.map (·.1)).map Int.toNat := by unfold ahK; rw [List.map_map]; rfl
    rw [e, hfst, List.map_map]
    have : (Int.toNat ∘ fun i : Nat => (i : Int)) = id := by funext i; simp
    rw [this, List.map_id]
  have hin : ∀ i, i < K.length → ∀ v, v ∈ (kAt K i).2 ↔ v ∈ o ∧ lastK rows AH v K.length = i := fun i hi v => by
    rw [hat i hi]
    unfold refStep
    rw [List.mem_filter, set_mem, beq_iff_eq, show AH.length = K.length by omega]
  have hcomp : CompP rows.length K := by
    rw [comp_perm, hfst]
    exact hp.map _
  refine ⟨hn, ⟨hcomp, ?_⟩, fun i hi h0 v hv => ?_, fun i hi => ?_, fun v => ?_⟩
  · by_cases h0 : rows.length = 0
    · exact .inl h0
    · refine .inr ⟨fun i hi v hv => ?_, ?_⟩
      · rw [hah, ((hin i hi v).1 hv).2]; exact Nat.le_refl _
      · rw [sort_iff]
        intro v
        rw [count_all K v _ (Nat.le_refl _)]
        have hlt : lastK rows AH v K.length < K.length := last_lt (by omega)
        unfold cntOut
        by_cases q : v ∈ o
        · rw [if_pos q, ← one_filter hlt]
          congr 1
          apply List.filter_congr
          intro i hi
          have hi := List.mem_range.1 hi
          unfold mem
          apply decide_eq_decide.2
          rw [hin i hi v]
          exact ⟨fun h => h.2, fun h => ⟨q, h⟩⟩
        · rw [if_neg q, List.length_eq_zero_iff, List.filter_eq_nil_iff]
          intro i hi hm
          exact q ((hin i (List.mem_range.1 hi) v).1 (memT.1 hm)).1
  · have h1 := ((hin i hi v).1 hv).2
    rw [← ahK_at hi, hah]
    rcases (last_iff (rows := rows) (AH := AH) (v := v) K.length i).1 h1 with ⟨_, h2, _⟩ | ⟨h2, _⟩
    · exact h2
    · omega
  · rw [hat i hi]
    exact filter_inc (set_inc _) _
  · unfold outsU
    rw [List.take_length, List.mem_flatMap]
    constructor
    · rintro ⟨x, hx, hv⟩
      obtain ⟨i, hi, e⟩ := List.getElem_of_mem hx
      have : kAt K i = x := by unfold kAt; simp [List.getD, List.getElem?_eq_getElem hi, e]
      rw [← this] at hv
      exact ⟨((hin i hi v).1 hv).1, by omega⟩
    · rintro ⟨hv, h0⟩
      have hlt : lastK rows AH v K.length < K.length := last_lt h0
      refine ⟨kAt K (lastK rows AH v K.length), ?_, (hin _ hlt v).2 ⟨hv, rfl⟩⟩
      unfold kAt
      simp [List.getD, List.getElem?_eq_getElem hlt]
theorem live_wid {rows : List Rw} {K : List (Int × List Int)} {i : Nat} (h : i < K.length) : (liveL rows K (i + 1)).length ≤ widL rows K i := by
  unfold widL
  obtain ⟨S, hS⟩ : ∃ S, setL (liveL rows K i ++ vrs rows (kAt K i).1) = S := ⟨_, rfl⟩
  have hm : ∀ v, v ∈ liveL rows K (i + 1) ↔ v ∈ S.filter fun v => mem (liveL rows K (i + 1)) v := fun v => by
    rw [List.mem_filter, memT, ← hS, set_mem, List.mem_append]
    constructor
    · intro hv
      refine ⟨?_, hv⟩
      rcases ((live_succ h).1 hv).1 with h1 | ⟨h1, _⟩
      · exact .inl h1
      · exact .inr h1
    · exact fun h => h.2
  have hSn : S.Nodup := by rw [← hS]; exact inc_nodup (set_inc _)
  rw [hS, nodup_len (inc_nodup live_inc) (hSn.filter _) hm]
  exact List.length_filter_le _ _
theorem wid_mx {rows : List Rw} {K : List (Int × List Int)} {i n : Nat} (h : i < n) : widL rows K i ≤ mx rows K n := by
  have := ((mx_le rows K ((mx rows K n : Nat) : Int) n).1 (Int.le_refl _)).2 i h
  omega
/-- The variables of the parts of the first k steps. -/
def seenK (rows : List Rw) (K : List (Int × List Int)) (k : Nat) (v : Int) : Prop := ∃ i, i < k ∧ v ∈ pr rows (kAt K i).1.toNat
theorem seen_live {rows : List Rw} {o : List Int} {K : List (Int × List Int)} (h : PlanOk rows o K) (h0 : 0 < K.length) (v : Int) : v ∈ liveL rows K K.length ↔ seenK rows K K.length v ∧ v ∉ o := by
  rw [live_mem, h.outs]
  have hv : v ∈ partsU rows K K.length ↔ seenK rows K K.length v := by
    unfold partsU seenK
    rw [List.take_length, List.mem_flatMap]
    have hc := h.right.1.2
    constructor
    · rintro ⟨x, hx, hv⟩
      obtain ⟨i, hi, e⟩ := List.getElem_of_mem hx
      have he : kAt K i = x := by unfold kAt; simp [List.getD, List.getElem?_eq_getElem hi, e]
      obtain ⟨h1, h2, _⟩ := hc i hi
      rw [he] at h1 h2
      unfold vrs at hv
      rw [if_pos ⟨h1, h2⟩, set_mem] at hv
      exact ⟨i, hi, by rw [he]; exact hv⟩
    · rintro ⟨i, hi, hv⟩
      obtain ⟨h1, h2, _⟩ := hc i hi
      refine ⟨kAt K i, ?_, ?_⟩
      · unfold kAt
        simp [List.getD, List.getElem?_eq_getElem hi]
      · unfold vrs
        rw [if_pos ⟨h1, h2⟩, set_mem]; exact hv
  rw [hv]
  constructor
  · rintro ⟨h1, h2⟩; exact ⟨h1, fun q => h2 ⟨q, h0⟩⟩
  · rintro ⟨h1, h2⟩; exact ⟨h1, fun q => h2 q.1⟩
end Go.Proofs.Ytjohdkcgodaeiaa
