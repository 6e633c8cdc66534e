/- Toward the contract of Take of a pool that has room and no released slot, of layer 9 (pool): the append of a node. -/
import Derived.Test.YtljclikholchmaaFn6
namespace Go.Proofs.Ytljclikholchmaa
open Go.RowKit

theorem info38 : (Try.prog.info? 38).map (fun i => (i.zero, i.size, i.bytes)) = some (some (ndV nd0), 5, 40) := by kernel_rfl
theorem info_parts {P : Program} {t : TypeId} {z : Option Value} {a b : Nat} (h : (P.info? t).map (fun i => (i.zero, i.size, i.bytes)) = some (z, a, b)) : ∃ i, P.info? t = some i ∧ i.zero = z ∧ i.size = a ∧ i.bytes = b := by
  cases hi : P.info? t with
  | none => rw [hi] at h; cases h
  | some i =>
    rw [hi] at h
    simp only [Option.map_some, Option.some.injEq, Prod.mk.injEq] at h
    exact ⟨i, rfl, h.1, h.2.1, h.2.2⟩
section
variable {w : World} {base bp : Nat} {room : Int} {An As : Option Addr} {cn cs : Nat} {N : List Nd} {st : List Int} {nf : Nat}
theorem cells_five (w : World) (x : Nd) (t : TypeId) (j : Nat) (u : Value) (h : (ndRow x).toList[j]? = some u) : (w.alloc (.cells (ndRow x) t)).cell? ((⟨w.heap.size, 0, none⟩ : Addr).add j) = some u := by
  have ha : ∀ b o j : Nat, (⟨b, o, none⟩ : Addr).add j = ⟨b, o + j, none⟩ := fun b o j => by unfold Addr.add; split <;> simp_all
  rw [ha, Nat.zero_add, (Blk.new w t (ndRow x)).cell, ← h, Array.getElem?_toList]
theorem nd_one (x : Nd) : ∀ u ∈ (ndRow x).toList, u.oneCell' = true := by
  intro u hu
  simp only [ndRow, List.mem_cons, List.not_mem_nil, or_false] at hu
  rcases hu with rfl | rfl | rfl | rfl | rfl <;> rfl
theorem own_grown {w w1 : World} {b e size n : Nat} {v : Value} {xs : List Value} {row : Option Nat} (h : w.ownsRow b e size v n xs) (hg : w.grownBy w1 row) (hv : ∀ k, v.ownBlock = some k → row ≠ some k) : w1.ownsRow b e size v n xs := by
  obtain ⟨h1, h2⟩ := h
  refine ⟨h1, ?_⟩
  rcases h2 with h2 | ⟨g, cap, cur, rfl, hgb, hh, r⟩
  · exact .inl h2
  · have hlt : g < w.heap.size := by
      rcases Nat.lt_or_ge g w.heap.size with q | q
      · exact q
      · rw [Array.getElem?_eq_none q] at hh; cases hh
    exact .inr ⟨g, cap, cur, rfl, hgb, (hg.block g hlt (hv g rfl).symm).trans hh, r⟩
theorem own_lt {w : World} {b e size n : Nat} {v : Value} {xs : List Value} (h : w.ownsRow b e size v n xs) (k : Nat) (hk : v.ownBlock = some k) : k < w.heap.size := by
  rcases h.2 with ⟨rfl, _⟩ | ⟨g, cap, cur, rfl, hgb, hh, _⟩
  · cases hk
  · simp only [Value.ownBlock, Option.some.injEq] at hk
    subst hk
    rcases Nat.lt_or_ge g w.heap.size with q | q
    · exact q
    · rw [Array.getElem?_eq_none q] at hh; cases hh
theorem PoolIn.push (h : PoolIn w base bp room An As cn cs N st 0) {w1 : World} {v' : Value} {x : Nd} (hown : w1.ownsRow base 38 5 v' (N.length + 1) (ndCells N ++ (ndRow x).toList)) (hg : w.grownBy w1 (Value.slice An N.length cn).ownBlock)
    (hat : v'.ownBlock = (Value.slice An N.length cn).ownBlock ∨ v'.ownBlock = some w.heap.size) :
    ∃ g' c', v' = .slice (some ⟨g', 0, none⟩) (N.length + 1) c' ∧ w1.frozen? ⟨bp, 1, none⟩ = false ∧ w1.cell? ⟨bp, 1, none⟩ = some (.slice An N.length cn) ∧ PoolIn (w1.setCell ⟨bp, 1, none⟩ v') base bp room (some ⟨g', 0, none⟩) As c' cs (N ++ [x]) st 0 := by
  have hbp : (Value.slice An N.length cn).ownBlock ≠ some bp := by
    intro e
    cases An with
    | none => cases e
    | some a => exact h.nn _ rfl (by simpa [Value.ownBlock] using e)
  have hst : ∀ k, (Value.slice As st.length cs).ownBlock = some k → (Value.slice An N.length cn).ownBlock ≠ some k := by
    intro k hk e
    cases An with
    | none => cases e
    | some a =>
      cases As with
      | none => cases hk
      | some b =>
        simp only [Value.ownBlock, Option.some.injEq] at e hk
        exact h.ndist _ _ rfl rfl (by rw [e, hk])
  have hH : Blk w1 bp 57 #[.int .i64 room, .slice An N.length cn, .slice As st.length cs, freeV As 0] := (hg.block bp h.head.lt hbp.symm).trans h.head
  have hS : OwnI w1 base (.slice As st.length cs) st := own_grown h.stack hg hst
  obtain ⟨g', c', rfl⟩ : ∃ g' c', v' = .slice (some ⟨g', 0, none⟩) (N.length + 1) c' := by
    rcases hown.2 with ⟨_, h0⟩ | ⟨g, cap, cur, rfl, _⟩
    · omega
    · exact ⟨g, cap, rfl⟩
  have hne : g' ≠ bp := by
    rcases hat with e | e
    · exact fun e2 => hbp (e.symm.trans (congrArg some e2))
    · have := h.head.lt
      have e3 : g' = w.heap.size := Option.some.inj e
      omega
  have hns : ∀ b, As = some b → g' ≠ b.block := by
    intro b hb e2
    subst hb
    rcases hat with e | e
    · exact hst b.block rfl (e.symm.trans (congrArg some e2))
    · have := own_lt h.stack b.block rfl
      have e3 : g' = w.heap.size := Option.some.inj e
      omega
  refine ⟨g', c', rfl, hH.frozen 1, by rw [hH.cell]; rfl, ?_, ?_, ?_, Nat.zero_le _, h.lo, ?_, h.ns, ?_⟩
  · have := hH.set_ 1 (.slice (some ⟨g', 0, none⟩) (N.length + 1) c')
    simpa using this
  · have e : ndCells (N ++ [x]) = ndCells N ++ (ndRow x).toList := by unfold ndCells; simp
    unfold OwnN
    rw [e, List.length_append]
    exact own_set_other hown (by simp only [Value.ownBlock, ne_eq, Option.some.injEq]; exact hne) 1 _
  · refine own_set_other hS ?_ 1 _
    intro e
    cases As with
    | none => cases e
    | some a => exact h.ns _ rfl (by simpa [Value.ownBlock] using e)
  · intro a ha
    cases ha
    exact hne
  · intro a b ha hb
    cases ha
    exact hns b hb
end
end Go.Proofs.Ytljclikholchmaa
