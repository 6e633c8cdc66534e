/- Contracts of Len and Set of a pool, of layer 9 (pool), over the translation. -/
import Derived.Test.YtljclikholchmaaFn2
import Derived.BigQuiet
namespace Go.Proofs.Ytljclikholchmaa
open Go.RowKit

/-- Blocks of S and new ones may change. -/
structure Frm (S : Nat → Prop) (w w' : World) : Prop where
  os : w'.os = w.os
  tape : w'.tape = w.tape
  output : w'.output = w.output
  size : w.heap.size ≤ w'.heap.size
  block : ∀ k, k < w.heap.size → ¬ S k → w'.heap[k]? = w.heap[k]?
theorem Frm.refl (S : Nat → Prop) (w : World) : Frm S w w := ⟨rfl, rfl, rfl, Nat.le_refl _, fun _ _ _ => rfl⟩
theorem Frm.trans {S : Nat → Prop} {a b c : World} (h : Frm S a b) (h2 : Frm S b c) : Frm S a c :=
  ⟨h2.os.trans h.os, h2.tape.trans h.tape, h2.output.trans h.output, Nat.le_trans h.size h2.size, fun k hk hs => (h2.block k (Nat.lt_of_lt_of_le hk h.size) hs).trans (h.block k hk hs)⟩
/-- The second step may also change what the first made. -/
theorem Frm.trans2 {S S' : Nat → Prop} {a b c : World} (h : Frm S a b) (h2 : Frm S' b c) (hs : ∀ k, S' k → S k ∨ a.heap.size ≤ k) : Frm S a c :=
  ⟨h2.os.trans h.os, h2.tape.trans h.tape, h2.output.trans h.output, Nat.le_trans h.size h2.size, fun k hk hn => (h2.block k (Nat.lt_of_lt_of_le hk h.size) (fun e => by
    rcases hs k e with e | e
    · exact hn e
    · omega)).trans (h.block k hk hn)⟩
theorem Frm.of_below {S : Nat → Prop} {a b : World} (h : Below a.heap.size a b) : Frm S a b := ⟨h.os, h.tape, h.output, h.size, fun k hk _ => h.block k hk⟩
theorem Frm.below {S : Nat → Prop} {B : Nat} {a b : World} (h : Frm S a b) (hB : B ≤ a.heap.size) (hS : ∀ k, S k → B ≤ k) : Below B a b := ⟨h.os, h.tape, h.output, h.size, fun k hk => h.block k (by omega) (fun e => by have := hS k e; omega)⟩
theorem Frm.set {S : Nat → Prop} {a b : World} (h : Frm S a b) {g : Nat} (hg : S g) (i : Nat) (v : Value) : Frm S a (b.setCell ⟨g, i, none⟩ v) :=
  h.trans ⟨rfl, rfl, rfl, by simp, fun k _ hs => by
    have : g ≠ k := fun e => hs (e ▸ hg)
    simp [World.setCell, Array.getElem?_modify, this]⟩
theorem Frm.grown {S : Nat → Prop} {a b : World} {row : Option Nat} (h : a.grownBy b row) (hr : ∀ k, row = some k → S k) : Frm S a b :=
  ⟨h.os, h.tape, h.output, h.size, fun k hk hs => h.block k hk (fun e => hs (hr k e.symm))⟩
/-- The blocks of a pool. -/
def PoolS (bp : Nat) (An As : Option Addr) (b : Nat) : Prop := b = bp ∨ (∃ a, An = some a ∧ a.block = b) ∨ ∃ a, As = some a ∧ a.block = b
section
variable {w : World} {base bp : Nat} {room : Int} {An As : Option Addr} {cn cs : Nat} {N : List Nd} {st : List Int} {nf : Nat}
theorem pool_Len (h : PoolIn w base bp room An As cn cs N st nf) (hN : N.length ≤ 1048576) (hf : nf ≤ N.length) : Calls Try.prog 13 #[.pointer (some ⟨bp, 0, none⟩)] w fun e w' => e = .returned (.int .i64 ((N.length - nf : Nat) : Int)) ∧ Below w.heap.size w w' := by
  have e1 := h.head.cell 1
  have e3 := h.head.cell 3
  simp [freeV] at e1 e3
  obtain ⟨D, hD⟩ : ∃ D, N.length - nf = D := ⟨_, rfl⟩
  have hd : (N.length : Int) - (nf : Int) = (D : Int) := by omega
  rw [hD]
  have h0 : (0 : Int) ≤ (nf : Int) := by omega
  have h1 : (nf : Int) ≤ (N.length : Int) := by omega
  have h2 : (N.length : Int) ≤ 1048576 := by omega
  have HD := Lib.hid hd
  clear h hf hD hd
  go_enter Try.func13, Try.ntmps13
  go_wp2
  go_quiet (fail)
  go_wp2
  go_ret
  refine ⟨?_, below_drewN (Below.refl _ _) _⟩
  show Ending.returned (Value.int .i64 ((N.length : Int) - (nf : Int))) = _
  rw [HD.out]
/-- A node written over the i-th one. -/
def put5 (w : World) (g o : Nat) (x : Nd) : World :=
  ((((w.setCell ⟨g, o, none⟩ (.int .i64 x.id)).setCell ⟨g, o + 1, none⟩ (.int .i64 x.v)).setCell ⟨g, o + 2, none⟩ (.int .i64 x.lo)).setCell ⟨g, o + 3, none⟩ (.int .i64 x.hi)).setCell ⟨g, o + 4, none⟩ (.int .i64 x.refs)
theorem put5_below {B g : Nat} {w w' : World} (h : Below B w w') (hg : B ≤ g) (o : Nat) (x : Nd) : Below B w (put5 w' g o x) :=
  ((((h.setCell (p := ⟨g, o, none⟩) hg _).setCell (p := ⟨g, o + 1, none⟩) hg _).setCell (p := ⟨g, o + 2, none⟩) hg _).setCell (p := ⟨g, o + 3, none⟩) hg _).setCell (p := ⟨g, o + 4, none⟩) hg _
theorem put5_frm {S : Nat → Prop} {g : Nat} {w w' : World} (h : Frm S w w') (hg : S g) (o : Nat) (x : Nd) : Frm S w (put5 w' g o x) :=
  ((((h.set hg _ _).set hg _ _).set hg _ _).set hg _ _).set hg _ _
theorem put5_other {w : World} {g k : Nat} {t : TypeId} {cs : Array Value} (h : Blk w k t cs) (hq : g ≠ k) (o : Nat) (x : Nd) : Blk (put5 w g o x) k t cs :=
  ((((h.set_other hq _ _).set_other hq _ _).set_other hq _ _).set_other hq _ _).set_other hq _ _
theorem put5_blk {w : World} {g : Nat} {t : TypeId} {cs : Array Value} (h : Blk w g t cs) (o : Nat) (x : Nd) :
    Blk (put5 w g o x) g t (((((cs.setIfInBounds o (.int .i64 x.id)).setIfInBounds (o + 1) (.int .i64 x.v)).setIfInBounds (o + 2) (.int .i64 x.lo)).setIfInBounds (o + 3) (.int .i64 x.hi)).setIfInBounds (o + 4) (.int .i64 x.refs)) :=
  ((((h.set_ o _).set_ (o + 1) _).set_ (o + 2) _).set_ (o + 3) _).set_ (o + 4) _
theorem own_other {w : World} {base e size n g : Nat} {v : Value} {xs : List Value} (h : w.ownsRow base e size v n xs) (hv : v.ownBlock ≠ some g) (o : Nat) (x : Nd) : (put5 w g o x).ownsRow base e size v n xs := by
  obtain ⟨h1, h2⟩ := h
  refine ⟨h1, ?_⟩
  rcases h2 with h2 | ⟨g2, cap, cur, rfl, hg, hh, r⟩
  · exact .inl h2
  · have hB : Blk w g2 e cur := hh
    have hne : g ≠ g2 := fun e => hv (by rw [e]; rfl)
    exact .inr ⟨g2, cap, cur, rfl, hg, put5_other hB hne o x, r⟩
theorem OwnN.put {w : World} {base g cn : Nat} {l : List Nd} (h : OwnN w base (.slice (some ⟨g, 0, none⟩) l.length cn) l) {i : Nat} (hi : i < l.length) (x : Nd) :
    OwnN (put5 w g (i * 5) x) base (.slice (some ⟨g, 0, none⟩) (l.set i x).length cn) (l.set i x) := by
  have hlen : (l.set i x).length = l.length := List.length_set
  obtain ⟨h1, h2⟩ := h
  unfold OwnN
  rw [hlen]
  refine ⟨by rw [ndCells_len, hlen], ?_⟩
  rcases h2 with ⟨hv, h0⟩ | ⟨g2, cap, cur, hv, hg, hh, hn, hc, hsz, htk⟩
  · omega
  · simp only [Value.slice.injEq, Option.some.injEq, Addr.mk.injEq, and_true] at hv
    obtain ⟨rfl, _, rfl⟩ := hv
    have hB : Blk w g 38 cur := hh
    refine .inr ⟨g, cn, _, rfl, hg, put5_blk hB (i * 5) x, hn, hc, by simpa using hsz, ?_⟩
    apply List.ext_getElem?
    intro k
    by_cases hk : k < l.length * 5
    · have e : k = k / 5 * 5 + k % 5 := by omega
      have hj : k % 5 < 5 := by omega
      have hq : k / 5 < l.length := by omega
      have hcur : cur[k]? = (ndRow (l[k / 5]))[k % 5]? := by
        have := ndCells_at l (k / 5) (k % 5) _ (List.getElem?_eq_getElem hq) hj
        rw [← e, ← htk, List.getElem?_take_of_lt (by omega), Array.getElem?_toList] at this
        exact this
      rw [List.getElem?_take_of_lt (by omega), Array.getElem?_toList]
      by_cases hki : k / 5 = i
      · have hx : (l.set i x)[k / 5]? = some x := by rw [hki, List.getElem?_set_self hi]
        have e2 : (ndCells (l.set i x))[k]? = (ndRow x)[k % 5]? := by
          conv => lhs; rw [e]
          exact ndCells_at _ _ _ x hx hj
        rw [e2]
        have hks : k < cur.size := by omega
        have h4 : k % 5 = 0 ∨ k % 5 = 1 ∨ k % 5 = 2 ∨ k % 5 = 3 ∨ k % 5 = 4 := by omega
        simp only [Array.getElem?_setIfInBounds, Array.size_setIfInBounds]
        rcases h4 with q | q | q | q | q
        · rw [if_neg (by omega), if_neg (by omega), if_neg (by omega), if_neg (by omega), if_pos (by omega), if_pos (by omega), q]; rfl
        · rw [if_neg (by omega), if_neg (by omega), if_neg (by omega), if_pos (by omega), if_pos (by omega), q]; rfl
        · rw [if_neg (by omega), if_neg (by omega), if_pos (by omega), if_pos (by omega), q]; rfl
        · rw [if_neg (by omega), if_pos (by omega), if_pos (by omega), q]; rfl
        · rw [if_pos (by omega), if_pos (by omega), q]; rfl
      · have hx : (l.set i x)[k / 5]? = some (l[k / 5]) := by rw [List.getElem?_set_ne (fun e => hki e.symm), List.getElem?_eq_getElem hq]
        have e2 : (ndCells (l.set i x))[k]? = (ndRow (l[k / 5]))[k % 5]? := by
          conv => lhs; rw [e]
          exact ndCells_at _ _ _ _ hx hj
        rw [e2, ← hcur]
        simp only [Array.getElem?_setIfInBounds, Array.size_setIfInBounds]
        rw [if_neg (by omega), if_neg (by omega), if_neg (by omega), if_neg (by omega), if_neg (by omega)]
    · rw [List.getElem?_eq_none (by rw [List.length_take]; omega), List.getElem?_eq_none (by rw [ndCells_len, hlen]; omega)]
end
end Go.Proofs.Ytljclikholchmaa
