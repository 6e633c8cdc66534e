/- Rows of memory that are only read; copies of them by append; layer 9 (pool). -/
import Derived.Test.YtljclikholchmaaFnB
import Derived.Laws.AppendOwnNone
namespace Go.Proofs.Ytljclikholchmaa
open Go.RowKit

/-- The slice whose address is A and capacity c begins with the cells cs, below block B. -/
def RowG (w : World) (B : Nat) (A : Option Addr) (c : Nat) (cs : List Value) : Prop := (A = none ∧ cs = [] ∧ c = 0) ∨ ∃ b off, A = some ⟨b, off, none⟩ ∧ b < B ∧ ∀ i u, cs[i]? = some u → w.cell? ⟨b, off + i, none⟩ = some u
section
variable {w w' : World} {B B' : Nat} {A : Option Addr} {c : Nat} {cs : List Value}
theorem RowG.below (h : RowG w B A c cs) (hb : Below B w w') : RowG w' B A c cs := by
  rcases h with h | ⟨b, off, e, hB, hc⟩
  · exact .inl h
  · exact .inr ⟨b, off, e, hB, fun i u hi => (hb.cell (p := ⟨b, off + i, none⟩) hB).trans (hc i u hi)⟩
theorem RowG.more (h : RowG w B A c cs) (hB : B ≤ B') : RowG w B' A c cs := by
  rcases h with h | ⟨b, off, e, hb, hc⟩
  · exact .inl h
  · exact .inr ⟨b, off, e, by omega, hc⟩
theorem RowG.step (h : RowG w w.heap.size A c cs) (hb : Below w.heap.size w w') : RowG w' w'.heap.size A c cs := (h.below hb).more hb.size
theorem RowG.nil : RowG w B none 0 [] := .inl ⟨rfl, rfl, rfl⟩
theorem RowG.out (h : RowG w B A c cs) (hp : 0 < cs.length) : ∃ b off, A = some ⟨b, off, none⟩ ∧ b < B ∧ ∀ i u, cs[i]? = some u → w.cell? ⟨b, off + i, none⟩ = some u := by
  rcases h with ⟨_, h, _⟩ | h
  · subst h; simp at hp
  · exact h
theorem RowG.take (h : RowG w B A c cs) (hp : 0 < cs.length) (k : Nat) : RowG w B A c (cs.take k) := by
  obtain ⟨b, off, e, hb, hc⟩ := h.out hp
  refine .inr ⟨b, off, e, hb, fun i u hi => hc i u ?_⟩
  rw [List.getElem?_take] at hi
  split at hi
  · exact hi
  · cases hi
end
theorem RowG.own {w : World} {base : Nat} {e : TypeId} {size n : Nat} {v : Value} {xs : List Value} (hs : 0 < size) (h : w.ownsRow base e size v n xs) : ∃ A c, v = .slice A n c ∧ RowG w w.heap.size A c xs := by
  obtain ⟨hl, h⟩ := h
  rcases h with ⟨rfl, rfl⟩ | ⟨g, cap, cur, rfl, hg, hh, hn, hc, hsz, htk⟩
  · exact ⟨none, 0, rfl, .inl ⟨rfl, List.eq_nil_of_length_eq_zero (by rw [hl]; exact Nat.zero_mul _), rfl⟩⟩
  · have hB : Blk w g e cur := hh
    refine ⟨_, cap, rfl, .inr ⟨g, 0, rfl, hB.lt, fun i u hi => ?_⟩⟩
    rw [Nat.zero_add, hB.cell]
    rw [← htk, List.getElem?_take] at hi
    split at hi
    · rw [← Array.getElem?_toList]; exact hi
    · cases hi
theorem RowG.made {w : World} {t : TypeId} {cs : List Value} (c : Nat) : RowG (w.alloc (.cells cs.toArray t)) (w.alloc (.cells cs.toArray t)).heap.size (some ⟨w.heap.size, 0, none⟩) c cs := by
  have hB := Blk.new w t cs.toArray
  refine .inr ⟨_, 0, rfl, hB.lt, fun i u hi => ?_⟩
  rw [Nat.zero_add, hB.cell]
  simpa using hi
/-- append of a row to a row of the call's own, in a plain region. -/
theorem wpList_app_row {ops : Array Oper} {rest : List Oper} {o : Oper} {a : Act} {Q : Exit → Act → World → Prop} (hgd : o.guard = none) (s x : Operand) (t : TypeId)
    (ho : o.op = .call { callee := .builtin .append, args := #[s, x], argTypes := #[t, t] })
    (base : Nat) (e : TypeId) (i : TypeInfo) (z : Value) (size bytes : Nat) (ht : Try.prog.underlying t = some (.slice e)) (hi : Try.prog.info? e = some i) (hz : i.zero = some z)
    (hsize : i.size = size) (hby : i.bytes = bytes) (hzs : z.cells.size = size) (hsz : 0 < size) (w : World)
    (v : Value) (n : Nat) (xs : List Value) (hs : a.eval s = v) (hown : w.ownsRow base e size v n xs)
    (A : Option Addr) (m c B : Nat) (news : List Value) (hx : a.eval x = .slice A m c) (hrow : RowG w B A c news) (hl : news.length = m * size) (h1 : ∀ u ∈ news, u.oneCell' = true)
    (h63 : n + m ≤ maxLen) (hbytes : (n + m) * bytes ≤ 140737488355328) (hbase : base ≤ w.heap.size)
    (h : ∀ v' w', w'.ownsRow base e size v' (n + m) (xs ++ news) → Below base w w' → wpList Try.prog ops Q rest (a.put o.dst v') w') :
    wpList Try.prog ops Q (o :: rest) a w := by
  rcases hrow with ⟨rfl, rfl, rfl⟩ | ⟨b, off, rfl, hb, hc⟩
  · have hm : m = 0 := by
      have h0 : m * size = 0 := by rw [← hl]; rfl
      rcases Nat.mul_eq_zero.1 h0 with h | h
      · exact h
      · omega
    subst hm
    refine wpList_append_own_none hgd s x t ho base e i size ht hi v n xs hs hown hx (h v w ?_ (Below.refl _ _))
    simpa using hown
  · refine wpList_append_own_at _ hgd s x t ho base e i z size bytes ht hi hz hsize hby hzs hsz v n xs hs hown ⟨b, off, none⟩ m c news hx hl (fun j u hj => ?_) h1 h63 hbytes hbase ?_
    · have e : (⟨b, off, none⟩ : Addr).add j = ⟨b, off + j, none⟩ := by unfold Addr.add; split <;> simp_all
      rw [e]; exact hc j u hj
    · intro v' w' hO hg _ _
      exact h v' w' hO ((Below.refl _ _).grown hg hbase (fun k e => (World.ownsRow.lt hown k e).1))
end Go.Proofs.Ytljclikholchmaa
