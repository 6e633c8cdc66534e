/- Contract of Steps of layer 5 (perm), over the translation. -/
import Derived.Test.YthbcjjodinnnfaaSmath
import Derived.Shelf.Slices.Delete
import Derived.Shelf.Slices.Turned
import Derived.Ground.Names2Prog
namespace Go.Proofs.Ythbcjjodinnnfaa
open Go.RowKit
open Go.Shelf

def Try.laysIndex_ren : Go.Shelf.Ren := ⟨fun | 108 => 28 | n => n, fun | 28 => 22 | 3 => 3 | 0 => 0 | 4 => 4 | n => n, fun | n => n⟩
theorem Try.laysIndex : Go.Proofs.Lays.n108 Try.prog Try.laysIndex_ren := {
  mixed := by kernel_rfl
  f108 := Try.func28.trans (congrArg some (by kernel_rfl))
  t0 := Try.underlying0
  a0 := Try.isAgg0
  z0 := Try.sizeOf0
  v0 := Try.zeroValue0
  t3 := Try.underlying3
  a3 := Try.isAgg3
  z3 := Try.sizeOf3
  v3 := Try.zeroValue3
  t4 := Try.underlying4
  a4 := Try.isAgg4
  z4 := Try.sizeOf4
  v4 := Try.zeroValue4
  t28 := Try.underlying22
  a28 := Try.isAgg22
  z28 := Try.sizeOf22
  v28 := Try.zeroValue22 }
def Try.laysDelete_ren : Go.Shelf.Ren := ⟨fun | 23 => 29 | n => n, fun | 22 => 22 | 3 => 3 | 4 => 4 | 0 => 0 | n => n, fun | n => n⟩
theorem Try.laysDelete : Go.Proofs.Lays2.n23 Try.prog Try.laysDelete_ren := {
  mixed := by kernel_rfl
  f23 := Try.func29.trans (congrArg some (by kernel_rfl))
  t0 := Try.underlying0
  a0 := Try.isAgg0
  z0 := Try.sizeOf0
  v0 := Try.zeroValue0
  t3 := Try.underlying3
  a3 := Try.isAgg3
  z3 := Try.sizeOf3
  v3 := Try.zeroValue3
  t4 := Try.underlying4
  a4 := Try.isAgg4
  z4 := Try.sizeOf4
  v4 := Try.zeroValue4
  t22 := Try.underlying22
  a22 := Try.isAgg22
  z22 := Try.sizeOf22
  v22 := Try.zeroValue22
  i3 := by kernel_rfl }

theorem li_app {a z : List Int} {j : Nat} (h : j < a.length) : li (a ++ z) j = li a j := by
  unfold li; simp [List.getD, List.getElem?_append, h]
theorem holds_pre {w : World} {g : Nat} {l z : List Int} (h : Blk w g 3 (intRow (l ++ z))) : Sort.Holds (Value.int .i64) w g 0 l.toArray := fun j hj => by
  have hj' : j < l.length := by simpa using hj
  refine ⟨?_, by rw [Nat.zero_add]; exact h.frozen j⟩
  rw [Nat.zero_add, h.cell, intRow_at (by rw [List.length_append]; omega), li_app hj']
  unfold li
  have e : l.toArray[j]! = l[j] := by simp [hj']
  rw [e]
  simp [List.getD, List.getElem?_eq_getElem hj']
theorem blk_put_pre {w : World} {g n : Nat} {l m z : List Int} (h : Blk w g 3 (intRow (l ++ z))) (hl : m.length = l.length) : Blk (Sort.putRow (Value.int .i64) (Sort.ahead w n) g 0 m.toArray) g 3 (intRow (m ++ z)) := by
  have h1 : (Sort.ahead w n).heap[g]? = some (.cells (intRow (l ++ z)) 3 (0, 0)) := h
  have h2 : (Sort.putRow (Value.int .i64) (Sort.ahead w n) g 0 m.toArray).heap[g]? = some (.cells (Sort.putCells (Value.int .i64) 0 m.toArray (intRow (l ++ z))) 3 (0, 0)) := by
    unfold Sort.putRow Sort.mapBlock
    simp only [Array.getElem?_modify, if_true, h1, Option.map_some]
    rfl
  have h3 : Sort.putCells (Value.int .i64) 0 m.toArray (intRow (l ++ z)) = intRow (m ++ z) := by
    apply Array.ext_getElem?
    intro i
    have s1 : (intRow (m ++ z)).size = m.length + z.length := by unfold intRow; simp
    have s2 : (Sort.putCells (Value.int .i64) 0 m.toArray (intRow (l ++ z))).size = l.length + z.length := by unfold Sort.putCells intRow; simp
    by_cases hi : i < m.length + z.length
    · rw [intRow_at (by rw [List.length_append]; omega)]
      unfold Sort.putCells
      rw [Array.getElem?_mapIdx, intRow_at (by rw [List.length_append]; omega)]
      by_cases hm : i < m.length
      · rw [li_app hm]
        have e : m.toArray[i]! = li m i := by unfold li; simp [hm, List.getD]
        simp [hm]
        unfold li; simp [List.getD, hm]
      · have e : li (m ++ z) i = li (l ++ z) i := by unfold li; simp [List.getD, List.getElem?_append, show ¬ i < l.length by omega, hl]
        simp [hm, e]
    · rw [Array.getElem?_eq_none (by omega), Array.getElem?_eq_none (by omega)]
  unfold Blk
  rw [h2, h3]
theorem put_size {w : World} {g n : Nat} {m : List Int} : (Sort.putRow (Value.int .i64) (Sort.ahead w n) g 0 m.toArray).heap.size = w.heap.size := by
  unfold Sort.putRow Sort.mapBlock; simp [Sort.ahead]
theorem Own.put {w : World} {B g n : Nat} {m : List Int} {v : Value} {l : List Int} (h : Own w B v l) (hg : g < B) : Own (Sort.putRow (Value.int .i64) (Sort.ahead w n) g 0 m.toArray) B v l := by
  obtain ⟨h1, h2⟩ := h
  refine ⟨h1, ?_⟩
  rcases h2 with h2 | ⟨g2, cap, cur, e, hg2, hh, r⟩
  · exact .inl h2
  · refine .inr ⟨g2, cap, cur, e, hg2, ?_, r⟩
    unfold Sort.putRow Sort.mapBlock
    simp only [Array.getElem?_modify]
    rw [if_neg (by omega)]
    exact hh
theorem Own.grow2 {w wr w1 : World} {B : Nat} {v : Value} {l : List Int} {o : Obj} (hO : Own wr B v l) (hb : Below B w wr) (hB : B ≤ wr.heap.size) (hg : (wr.alloc o).grownBy w1 v.ownBlock) : Below B w w1 :=
  (hb.alloc hB _).grown hg (by simp; omega) (fun k e => hO.block k e)
theorem idx_lib {r : List Int} {v : Int} (h : v ∈ r) : Lib.idxOf (r.take r.length) v = (r.idxOf v : Nat) := by
  have hk : r.idxOf v < r.length := List.idxOf_lt_length_of_mem h
  refine Lib.idxOf_hit r r.length _ v hk (Nat.le_refl _) ?_ (fun j hj e => ?_)
  · have : li r (r.idxOf v) = v := by rw [li_get hk]; simp
    exact this
  · have e2 : li r j = v := e
    rw [li_get (by omega)] at e2
    have := List.not_of_lt_findIdx (p := fun y => y == v) (xs := r) (i := j) (by simpa [List.idxOf] using hj)
    simp [e2] at this
theorem stp_le : ∀ (b r : List Int) (i N : Nat), Like r b → r.length ≤ N → (stp i r b).length ≤ b.length * N
  | [], r, i, N, h, hN => by simp [stp]
  | v :: bs, r, i, N, h, hN => by
    have hlt : r.idxOf v < r.length := List.idxOf_lt_length_of_mem h.mem
    have ih := stp_le bs (r.erase v) (i + 1) N h.next (by rw [List.length_erase_of_mem h.mem]; omega)
    unfold stp
    rw [List.length_append, downs_len, List.length_cons, Nat.succ_mul]
    omega

/-- What the loop of Steps knows at place k: rest and out, toward b and S. -/
structure SRel (b S : List Int) (n k : Nat) (rest z out : List Int) : Prop where
  like : Like rest (b.drop k)
  eq : out ++ stp k rest (b.drop k) = S
  len : rest.length + k = n
  zs : rest.length + z.length = n
theorem SRel.start {a b : List Int} (h : Like a b) : SRel b (stp 0 a b) a.length 0 a [] [] := ⟨h, rfl, rfl, rfl⟩
theorem SRel.mem {b S : List Int} {n k : Nat} {rest z out : List Int} (h : SRel b S n k rest z out) (hk : k < b.length) : li b k ∈ rest ∧ rest.idxOf (li b k) < rest.length := by
  have e : b.drop k = li b k :: b.drop (k + 1) := by rw [List.drop_eq_getElem_cons hk, li_get hk]
  have := h.like
  rw [e] at this
  exact ⟨this.mem, List.idxOf_lt_length_of_mem this.mem⟩
theorem SRel.next {b S : List Int} {n k : Nat} {rest z out : List Int} (h : SRel b S n k rest z out) (hk : k < b.length) :
    SRel b S n (k + 1) (rest.erase (li b k)) (0 :: z) (out ++ downs k (rest.idxOf (li b k)) (rest.idxOf (li b k))) := by
  have e : b.drop k = li b k :: b.drop (k + 1) := by rw [List.drop_eq_getElem_cons hk, li_get hk]
  have hm := (h.mem hk).1
  have hl := h.like
  have he := h.eq
  rw [e] at hl he
  have h1 := List.length_erase_of_mem hm
  have h2 := h.len
  have h3 := h.zs
  have h4 : 0 < rest.length := List.length_pos_of_mem hm
  refine ⟨hl.next, ?_, by omega, by simp; omega⟩
  rw [List.append_assoc]; exact he
theorem SRel.small {b S : List Int} {n k : Nat} {rest z out : List Int} (h : SRel b S n k rest z out) (hk : k < b.length) : out.length + rest.idxOf (li b k) ≤ S.length := by
  have := (h.next hk).eq
  have h2 := congrArg List.length this
  simp only [List.length_append, downs_len] at h2
  omega
theorem SRel.done {b S : List Int} {n : Nat} {rest z out : List Int} (h : SRel b S n b.length rest z out) : out = S := by
  have := h.eq
  rw [List.drop_length] at this
  simpa [stp] using this
end Go.Proofs.Ythbcjjodinnnfaa
