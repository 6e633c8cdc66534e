/- The row of the entries, sorted; layer 10 (uniq). -/
import Derived.Test.YtmnolldomipgiaaFnA
namespace Go.Proofs.Ytmnolldomipgiaa
open Go.RowKit Go.Shelf Go.Maps Go.Lib Go.Sort

instance : Inhabited En := ⟨en0⟩
def OwnP (w : World) (B : Nat) (v : Value) (l : List En) : Prop := w.ownsRow B 62 3 v l.length (enC l)
theorem enL_arr (x : En) : (enL x).toArray = enR x := by unfold enL; simp
theorem heap_sort (V : World) (g n : Nat) (d : Array En) (os : Array Obj) (b : Nat) (hb : b < V.heap.size) (hne : b ≠ g) : (sortWorldK enL 3 V g 0 n d os).heap[b]? = V.heap[b]? := by
  unfold sortWorldK grow putRowK putRow mapBlock Sort.ahead
  show (V.heap.modify g _ ++ os)[b]? = _
  rw [Array.getElem?_append_left (by simpa using hb), Array.getElem?_modify, if_neg (fun h => hne h.symm)]
theorem heap_sort_at (V : World) (g n : Nat) (d : Array En) (os : Array Obj) (cs : Array Value) (t : TypeId) (h : Blk V g t cs) : ∃ cs', Blk (sortWorldK enL 3 V g 0 n d os) g t cs' := by
  have hb := h.lt
  unfold Blk at h ⊢
  unfold sortWorldK grow putRowK putRow mapBlock Sort.ahead
  refine ⟨putCells id 0 (flatK enL 3 d) cs, ?_⟩
  show (V.heap.modify g _ ++ os)[g]? = _
  rw [Array.getElem?_append_left (by simpa using hb), Array.getElem?_modify, if_pos rfl, h]
  rfl
theorem below_sort {Z : Nat} (V : World) (g n : Nat) (d : Array En) (os : Array Obj) (hg : Z ≤ g) (hZ : Z ≤ V.heap.size) : Below Z V (sortWorldK enL 3 V g 0 n d os) := by
  refine ⟨rfl, rfl, rfl, size_sortWorldK_c _ _ _ _ _ _ _ _, fun k hk => heap_sort V g n d os k (by omega) (by omega)⟩
theorem sort_ents {V : World} {Z c : Nat} {A : Option Addr} {L M : List En} (h : OwnP V Z (.slice A L.length c) L) (hp : L.Perm M) (hs : Srt M) (hl : L.length ≤ 1000000) (hZ : Z ≤ V.heap.size) :
    Calls Try.prog 25 #[.slice A L.length c, .func (.func 26) #[] #[]] V fun e w' => e = .returned (.tuple #[]) ∧ RowX Z w' A M ∧ Below Z V w' ∧ ∀ b, b < V.heap.size → (Value.slice A L.length c).ownBlock ≠ some b → w'.heap[b]? = V.heap[b]? := by
  have hlen := hp.length_eq
  rcases h.2 with ⟨he, h0⟩ | ⟨g, cap, cur, he, hg, hh, hn, hc, hz, htk⟩
  · have hM : M = [] := List.eq_nil_of_length_eq_zero (by omega)
    subst hM
    rw [h0]
    have hcon := AnyF.slices_SortFunc_none { laySort with } A c (.func (.func 26) #[] #[]) V
    refine hcon.mono ?_
    rintro e w' ⟨rfl, rfl⟩
    exact ⟨rfl, fun hz => absurd hz (by simp), Below.refl _ _, fun _ _ _ => rfl⟩
  · injection he with h1 h2 h3
    subst h1; subst h3
    have hB : Blk V g 62 cur := hh
    have hH : HoldsK enL 3 V g 0 L.toArray := by
      intro j hj
      rw [size_flatK] at hj
      have hj' : j < L.length * 3 := hj
      have hk : j / 3 < L.length := by omega
      have e := enC_at L (j / 3) (j % 3) hk (by omega)
      rw [show j / 3 * 3 + j % 3 = j by omega, ← htk, List.getElem?_take_of_lt hj', Array.getElem?_toList] at e
      refine ⟨?_, hB.frozen _⟩
      rw [hB.cell, Nat.zero_add, e, get_flatK _ _ _ _ hj]
      have : L.toArray[j / 3]! = ea L (j / 3) := by simp [ea, hk]
      rw [this]
      have h3 : j % 3 = 0 ∨ j % 3 = 1 ∨ j % 3 = 2 := by omega
      rcases h3 with h3 | h3 | h3 <;> rw [h3] <;> rfl
    have hcon := AnyQ.slices_SortFunc_total laySort 3 agg62 size62 enL (fun _ => rfl) en_one cmpE swoE 26 #[] g 0 c L.toArray V (enters_of Try.func26 (by kernel_rfl) rfl) (fun m os dk _ x y => by
      rw [enL_arr, enL_arr]; exact c_compare x y _) hH hB.lt (by simp; omega) (fun x y h1 h2 => ahead_tot (by rw [← lt_cmpE]; exact h1) (by rw [← lt_cmpE]; exact h2))
    refine Calls.mono hcon ?_
    rintro e w' ⟨rfl, n, os, rfl⟩
    rw [show L.toArray.toList = L from rfl, sort_perm hp hs]
    have hX := holdsK_sortWorldK enL 3 V g 0 n L.toArray M.toArray os hB.lt hH (by simp [hlen])
    obtain ⟨cs', hcs⟩ := heap_sort_at V g n M.toArray os cur 62 hB
    refine ⟨rfl, fun _ => ⟨g, 0, cs', rfl, hg, hcs, fun k hk => ?_⟩, below_sort V g n _ os hg hZ, fun b hb hne => heap_sort V g n _ os b hb (fun e => hne (by rw [e]; rfl))⟩
    have key : ∀ j, j < 3 → cs'[0 + k * 3 + j]? = some ((enL (ea M k))[j]!) := fun j hj => by
      have h1 := (HoldsK.cell hX (i := k) (c := j) (by simpa using hk) hj).1
      rw [hcs.cell] at h1
      rw [h1]
      have : M.toArray[k]! = ea M k := by simp [ea, hk]
      rw [this]
    exact ⟨key 0 (by omega), key 1 (by omega), key 2 (by omega)⟩
end Go.Proofs.Ytmnolldomipgiaa
