/- The specification's parser of layer 7 (ptext): the operator's loop; append of a tree. -/
import Derived.Test.YtipapemcedkinaaPe
namespace Go.Proofs.Ytipapemcedkinaa
open Go.RowKit Go.PlainAid

/-- The operator found among the first i symbols. -/
def opI (c : Int) (i : Nat) : Int := if opF c ≠ 0 ∧ opF c < 4 + (i : Int) then opF c else 0
theorem opI_zero (c : Int) : opI c 0 = 0 := by
  unfold opI
  rw [if_neg]
  rintro ⟨h1, h2⟩
  rcases opF_range c with h | h
  · exact h1 h
  · omega
theorem opI_all (c : Int) : opI c 7 = opF c := by
  unfold opI
  split
  · rfl
  · rename_i h
    rcases opF_range c with h1 | h1
    · exact h1.symm
    · exact absurd ⟨by omega, by omega⟩ h
theorem opI_hit {c : Int} {i : Nat} (h : opF c = 4 + (i : Int)) : opI c (i + 1) = 4 + (i : Int) := by
  unfold opI
  rw [if_pos ⟨by omega, by omega⟩, h]
theorem opI_miss {c : Int} {i : Nat} (h : opF c ≠ 4 + (i : Int)) : opI c (i + 1) = opI c i := by
  unfold opI
  by_cases h0 : opF c ≠ 0 ∧ opF c < 4 + (i : Int)
  · rw [if_pos h0, if_pos ⟨h0.1, by omega⟩]
  · rw [if_neg h0, if_neg (fun h1 => h0 ⟨h1.1, by omega⟩)]
def sgT : ByteArray := ⟨#[33, 38, 124, 94, 62, 61, 63]⟩
theorem sg_is (c : Int) {i : Nat} (hi : i < 7) : c = Go.PlainAid.bt sgT i ↔ opF c = 4 + (i : Int) := by
  have h : i = 0 ∨ i = 1 ∨ i = 2 ∨ i = 3 ∨ i = 4 ∨ i = 5 ∨ i = 6 := by omega
  have b0 : Go.PlainAid.bt sgT 0 = 33 := rfl
  have b1 : Go.PlainAid.bt sgT 1 = 38 := rfl
  have b2 : Go.PlainAid.bt sgT 2 = 124 := rfl
  have b3 : Go.PlainAid.bt sgT 3 = 94 := rfl
  have b4 : Go.PlainAid.bt sgT 4 = 62 := rfl
  have b5 : Go.PlainAid.bt sgT 5 = 61 := rfl
  have b6 : Go.PlainAid.bt sgT 6 = 63 := rfl
  rcases h with rfl | rfl | rfl | rfl | rfl | rfl | rfl <;> simp only [b0, b1, b2, b3, b4, b5, b6] <;> unfold opF <;> (repeat' split) <;> constructor <;> intro h <;> omega
/-- One tree more, in a region in the text's order. -/
theorem wpList_app_e {ops : Array Oper} {rest : List Oper} {o : Oper} {a : Act} {Q : Exit → Act → World → Prop} (hgd : o.guard = none) (s x : Operand)
    (ho : o.op = .call { callee := .builtin .append, args := #[s, x], argTypes := #[23, 23] }) (wr : World) (K q : Nat) (v : Value) (ts : List Ex) (hq : ts.length = q) (hs : a.eval s = v) (hrow : RowE wr K v ts) (t : Ex) (A : Option Addr) (c : Nat)
    (hx : a.eval x = .slice (some ⟨wr.heap.size, 0, none⟩) 1 1) (hT : RepS (fun x => (K ≤ x ∧ x < wr.heap.size) ∧ v.ownBlock ≠ some x) wr A t) (hK : K ≤ wr.heap.size) (hn : q ≤ 1000000)
    (h : ∀ A' c' w', RowE w' K (.slice A' (q + 1) c') (ts ++ [t]) → Below K wr w' → (∀ x, x < wr.heap.size → v.ownBlock ≠ some x → w'.heap[x]? = wr.heap[x]?) → wpList Try.prog ops Q rest (a.put o.dst (.slice A' (q + 1) c')) w') : wpList Try.prog ops Q (o :: rest) a (wr.alloc (.cells (exC t A c) 25)) := by
  subst hq
  obtain ⟨i0, hi0, hz0, hz1, hz2⟩ := info_parts info25
  obtain ⟨ka, kc, hown, hk⟩ := hrow
  have hal : Below wr.heap.size wr (wr.alloc (.cells (exC t A c) 25)) := balw _ _
  refine wpList_append_own_at _ hgd s x 23 ho K 25 i0 _ 3 40 Try.underlying23 hi0 hz0 hz1 hz2 rfl (by decide) v ts.length (csOf ts ka kc) hs (own_keepG hown hal) ⟨wr.heap.size, 0, none⟩ 1 1 [.int .i64 t.op, .int .i64 t.vr, .slice A t.ks.length c] hx rfl (fun j u hj => ?_) (by simp [Value.oneCell']) (by unfold maxLen; omega) (by omega) (by simp; omega) ?_
  · have hB2 := Blk.new wr 25 (exC t A c)
    rw [adr_add, Nat.zero_add, hB2.cell j]
    simpa using hj
  intro v' w' hO hg _ hnew
  obtain ⟨A', c', rfl⟩ := owns_slice hO
  have hlt : ∀ y, (Value.slice A' (ts.length + 1) c').ownBlock = some y → v.ownBlock = some y ∨ y = (wr.alloc (.cells (exC t A c) 25)).heap.size := fun y hy => by
    rcases hnew with q | q
    · exact .inl (q ▸ hy)
    · rw [hy] at q; exact .inr (by simpa using q)
  have hsz : (wr.alloc (.cells (exC t A c) 25)).heap.size = wr.heap.size + 1 := by simp
  refine h A' c' w' (RowE.push (w := wr) (W := wr.alloc (.cells (exC t A c) 25)) hown hk (fun x _ h2 => hal.block x h2) (by omega) ((hT.kept (fun x hx => hal.block x hx.1.2)).mono (fun x hx => ⟨⟨hx.1.1, by have := hx.1.2; omega⟩, hx.2⟩)) hg hO hlt) ?_ ?_
  · exact (hal.mono hK).grown hg (by omega) (fun k e => (hown.lt k e).1)
  · exact fun x hx hne => (hg.block x (by omega) (fun e => hne e.symm)).trans (hal.block x hx)
end Go.Proofs.Ytipapemcedkinaa
