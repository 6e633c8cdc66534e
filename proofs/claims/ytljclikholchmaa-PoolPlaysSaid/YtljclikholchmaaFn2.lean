/- A pool in memory; contracts of New, Room, Len, has, At, of layer 9 (pool), over the translation. -/
import Derived.Test.YtljclikholchmaaFn1
namespace Go.Proofs.Ytljclikholchmaa
open Go.RowKit

def ndCells (l : List Nd) : List Value := l.flatMap fun x => (ndRow x).toList
theorem ndCells_len (l : List Nd) : (ndCells l).length = l.length * 5 := by
  induction l with
  | nil => rfl
  | cons x t ih =>
    have : ndCells (x :: t) = (ndRow x).toList ++ ndCells t := rfl
    rw [this, List.length_append, ih, List.length_cons]
    show 5 + t.length * 5 = _
    omega
theorem ndCells_at : ∀ (l : List Nd) (i j : Nat) (x : Nd), l[i]? = some x → j < 5 → (ndCells l)[i * 5 + j]? = (ndRow x)[j]?
  | [], i, _, _, h, _ => by simp at h
  | y :: t, 0, j, x, h, hj => by
    have e : ndCells (y :: t) = (ndRow y).toList ++ ndCells t := rfl
    have h2 : y = x := by simpa using h
    subst h2
    rw [e, List.getElem?_append_left (by show 0 * 5 + j < 5; omega)]
    simp
  | y :: t, i + 1, j, x, h, hj => by
    have e : ndCells (y :: t) = (ndRow y).toList ++ ndCells t := rfl
    have hl : (ndRow y).toList.length = 5 := rfl
    rw [e, List.getElem?_append_right (by rw [hl]; omega), hl, show (i + 1) * 5 + j - 5 = i * 5 + j by omega]
    exact ndCells_at t i j x (by simpa using h) hj
def OwnN (w : World) (base : Nat) (v : Value) (l : List Nd) : Prop := w.ownsRow base 38 5 v l.length (ndCells l)
def OwnI (w : World) (base : Nat) (v : Value) (l : List Int) : Prop := w.ownsRow base 3 1 v l.length (l.map (Value.int .i64))
/-- The value of free, over the memory of free. -/
def freeV (A : Option Addr) (nf : Nat) : Value := .slice A nf nf
/-- The pool at bp: its nodes, the memory of free, of which the first nf are free. -/
structure PoolIn (w : World) (base bp : Nat) (room : Int) (An As : Option Addr) (cn cs : Nat) (N : List Nd) (st : List Int) (nf : Nat) : Prop where
  head : Blk w bp 57 #[.int .i64 room, .slice An N.length cn, .slice As st.length cs, freeV As nf]
  nodes : OwnN w base (.slice An N.length cn) N
  stack : OwnI w base (.slice As st.length cs) st
  le : nf ≤ st.length
  lo : base ≤ bp
  nn : ∀ a, An = some a → a.block ≠ bp
  ns : ∀ a, As = some a → a.block ≠ bp
  ndist : ∀ a b, An = some a → As = some b → a.block ≠ b.block
theorem OwnN.at {w : World} {base : Nat} {An : Option Addr} {cn : Nat} {l : List Nd} (h : OwnN w base (.slice An l.length cn) l) {i : Nat} {x : Nd} (hx : l[i]? = some x) :
    ∃ g, An = some ⟨g, 0, none⟩ ∧ base ≤ g ∧ ∀ j, j < 5 → w.cell? ⟨g, i * 5 + j, none⟩ = (ndRow x)[j]? := by
  have hil : i < l.length := (List.getElem?_eq_some_iff.1 hx).1
  rcases h.2 with ⟨_, h0⟩ | ⟨g, cap, cur, hv, hg, hh, hn, hc, hsz, htk⟩
  · omega
  · simp only [Value.slice.injEq] at hv
    obtain ⟨rfl, _, rfl⟩ := hv
    refine ⟨g, rfl, hg, fun j hj => ?_⟩
    have hB : Blk w g 38 cur := hh
    rw [hB.cell, ← ndCells_at l i j x hx hj, ← htk, List.getElem?_take_of_lt (by omega), Array.getElem?_toList]
theorem OwnN.cells {w : World} {base g : Nat} {cn : Nat} {l : List Nd} (h : OwnN w base (.slice (some ⟨g, 0, none⟩) l.length cn) l) {i : Nat} {x : Nd} (hx : l[i]? = some x) :
    w.cell? ⟨g, i * 5, none⟩ = some (.int .i64 x.id) ∧ w.cell? ⟨g, i * 5 + 1, none⟩ = some (.int .i64 x.v) ∧ w.cell? ⟨g, i * 5 + 2, none⟩ = some (.int .i64 x.lo) ∧ w.cell? ⟨g, i * 5 + 3, none⟩ = some (.int .i64 x.hi) ∧ w.cell? ⟨g, i * 5 + 4, none⟩ = some (.int .i64 x.refs) := by
  obtain ⟨g2, h1, _, h3⟩ := h.at hx
  simp only [Option.some.injEq, Addr.mk.injEq, and_true] at h1
  subst h1
  exact ⟨h3 0 (by omega), h3 1 (by omega), h3 2 (by omega), h3 3 (by omega), h3 4 (by omega)⟩
theorem pool_New {n : Int} (hn : 1 ≤ n) (hn2 : n ≤ 1048576) (w : World) :
    Calls Try.prog 8 #[.int .i64 n] w fun e w' => e = .returned (.tuple #[.pointer (some ⟨w.heap.size, 0, none⟩), .int .i64 0]) ∧ PoolIn w' w.heap.size w.heap.size n none none 0 0 [] [] 0 ∧ Below w.heap.size w w' := by
  have hB := Lib.hid (Blk.new w 57 #[.int .i64 n, .slice none 0 0, .slice none 0 0, .slice none 0 0])
  have hb : Below w.heap.size w (w.alloc (.cells #[.int .i64 n, .slice none 0 0, .slice none 0 0, .slice none 0 0] 57)) := (Below.refl _ _).alloc (Nat.le_refl _) _
  have HB := Lib.hid hb
  clear hb
  go_enter Try.func8, Try.ntmps8
  go_wp2
  go_ret2
  exact ⟨rfl, ⟨hB.out, World.ownsRow_nil _ _ _ _, World.ownsRow_nil _ _ _ _, Nat.le_refl _, Nat.le_refl _, (fun _ h => by cases h), (fun _ h => by cases h), (fun _ _ h => by cases h)⟩, HB.out⟩
section
variable {w : World} {base bp : Nat} {room : Int} {An As : Option Addr} {cn cs : Nat} {N : List Nd} {st : List Int} {nf : Nat}
theorem pool_Room (h : PoolIn w base bp room An As cn cs N st nf) : Calls Try.prog 15 #[.pointer (some ⟨bp, 0, none⟩)] w fun e w' => e = .returned (.int .i64 room) ∧ w = w' := by
  have e0 := h.head.cell 0
  simp at e0
  clear h
  go_enter Try.func15, Try.ntmps15
  go_wp2
  go_ret
  exact ⟨rfl, rfl⟩
/-- Slot id is allocated. -/
def hasF (N : List Nd) (id : Int) : Bool := decide (1 ≤ id) && (decide (id ≤ N.length) && ((N.getD (id - 1).toNat nd0).id == id))
theorem pool_has (h : PoolIn w base bp room An As cn cs N st nf) (hN : N.length ≤ 1048576) (id : Int) (hid : (Lit.int .i64 id).wf = true) : Calls Try.prog 25 #[.pointer (some ⟨bp, 0, none⟩), .int .i64 id] w fun e w' => e = .returned (.bool (hasF N id)) ∧ w = w' := by
  have e1 := h.head.cell 1
  simp at e1
  obtain ⟨d, hd⟩ : ∃ d, hasF N id = d := ⟨_, rfl⟩
  rw [hd]
  unfold hasF at hd
  by_cases c1 : 1 ≤ id
  · by_cases c2 : id ≤ N.length
    · obtain ⟨i, rfl⟩ : ∃ i : Nat, id = (i : Int) + 1 := ⟨(id - 1).toNat, by omega⟩
      have hi : i < N.length := by omega
      obtain ⟨x, hx⟩ : ∃ x, N[i]? = some x := ⟨_, List.getElem?_eq_getElem hi⟩
      obtain ⟨g, rfl, _, _⟩ := h.nodes.at hx
      obtain ⟨z0, _, _, _, _⟩ := h.nodes.cells hx
      have hd2 : (x.id == (i : Int) + 1) = d := by
        rw [← hd]
        have e3 : ((i : Int) + 1 - 1).toNat = i := by omega
        have t1 : decide (1 ≤ (i : Int) + 1) = true := decide_eq_true (by omega)
        have t2 : decide ((i : Int) + 1 ≤ (N.length : Int)) = true := decide_eq_true (by omega)
        rw [t1, t2, e3, List.getD, hx]
        rfl
      have h0 : (0 : Int) ≤ (i : Int) := by omega
      have h1 : (i : Int) < (N.length : Int) := by omega
      have HD := Lib.hid hd2
      clear h hd hd2 hx hid
      go_enter Try.func25, Try.ntmps25
      go_wp2
      go_ret
      exact ⟨congrArg (fun z => Ending.returned (Value.bool z)) HD.out, rfl⟩
    · have hd' : d = false := by rw [← hd]; simp [c2]
      subst hd'
      have c3 : (N.length : Int) < id := by omega
      clear h hd hid c2
      go_enter Try.func25, Try.ntmps25
      go_wp2
      go_ret
      exact ⟨rfl, rfl⟩
  · have hd' : d = false := by rw [← hd]; simp [c1]
    subst hd'
    have c3 : id < 1 := by omega
    clear h hd hid c1
    go_enter Try.func25, Try.ntmps25
    go_wp2
    go_ret
    exact ⟨rfl, rfl⟩
theorem own_keep {w w' : World} {base e size n : Nat} {v : Value} {xs : List Value} (h : w.ownsRow base e size v n xs) (hb : Below w.heap.size w w') : w'.ownsRow base e size v n xs := by
  obtain ⟨h1, h2⟩ := h
  refine ⟨h1, ?_⟩
  rcases h2 with h2 | ⟨g, cap, cur, e, hg, hh, r⟩
  · exact .inl h2
  · have hlt : g < w.heap.size := by
      rcases Nat.lt_or_ge g w.heap.size with q | q
      · exact q
      · rw [Array.getElem?_eq_none q] at hh; cases hh
    exact .inr ⟨g, cap, cur, e, hg, (hb.block g hlt).trans hh, r⟩
theorem PoolIn.below {w' : World} (h : PoolIn w base bp room An As cn cs N st nf) (hb : Below w.heap.size w w') : PoolIn w' base bp room An As cn cs N st nf :=
  ⟨h.head.below hb h.head.lt, own_keep h.nodes hb, own_keep h.stack hb, h.le, h.lo, h.nn, h.ns, h.ndist⟩
theorem pool_At (h : PoolIn w base bp room An As cn cs N st nf) (hN : N.length ≤ 1048576) (id : Int) (hid : (Lit.int .i64 id).wf = true) : Calls Try.prog 11 #[.pointer (some ⟨bp, 0, none⟩), .int .i64 id] w fun e w' =>
    e = .returned (.tuple #[ndV (if hasF N id then N.getD (id - 1).toNat nd0 else nd0), .bool (hasF N id)]) ∧ Below w.heap.size w w' := by
  have hb : Below w.heap.size w (w.alloc (.cells #[.int .i64 0, .int .i64 0, .int .i64 0, .int .i64 0, .int .i64 0] 38)) := (Below.refl _ _).alloc (Nat.le_refl _) _
  have H := Lib.hid (pool_has (h.below hb) hN id hid)
  have e1 := (h.below hb).head.cell 1
  simp at e1
  by_cases hh : hasF N id = true
  · rw [hh] at H ⊢
    rw [if_pos rfl]
    unfold hasF at hh
    simp only [Bool.and_eq_true, decide_eq_true_eq] at hh
    obtain ⟨c1, c2, _⟩ := hh
    obtain ⟨i, rfl⟩ : ∃ i : Nat, id = (i : Int) + 1 := ⟨(id - 1).toNat, by omega⟩
    have hi : i < N.length := by omega
    obtain ⟨x, hx⟩ : ∃ x, N[i]? = some x := ⟨_, List.getElem?_eq_getElem hi⟩
    obtain ⟨g, rfl, _, _⟩ := h.nodes.at hx
    obtain ⟨z0, z1, z2, z3, z4⟩ := OwnN.cells (h.below hb).nodes hx
    have e3 : ((i : Int) + 1 - 1).toNat = i := by omega
    have e4 : N.getD i nd0 = x := by rw [List.getD, hx]; rfl
    rw [e3, e4]
    have h0 : (0 : Int) ≤ (i : Int) := by omega
    have h1 : (i : Int) < (N.length : Int) := by omega
    obtain ⟨x0, x1, x2, x3, x4⟩ := x
    dsimp only at z0 z1 z2 z3 z4
    have HB := Lib.hid hb
    clear h hx hid hb e3 e4 c1 c2
    go_enter Try.func11, Try.ntmps11
    go_wp2_with fail
    refine H.out.mono ?_; rintro e w1 ⟨rfl, rfl⟩
    clear H
    go_wp2
    refine bodyPost_ret (v := .tuple #[ndV ⟨x0, x1, x2, x3, x4⟩, .bool true]) ?_ rfl ⟨rfl, ?_⟩
    · rw [results_cell_tmp rfl]
      go_simp
      rfl
    · exact (Below.refl _ _).alloc (Nat.le_refl _) _
  · have hf : hasF N id = false := by simpa using hh
    rw [hf] at H ⊢
    rw [if_neg (by decide)]
    clear hh hf h hid
    go_enter Try.func11, Try.ntmps11
    go_wp2_with fail
    refine H.out.mono ?_; rintro e w1 ⟨rfl, rfl⟩
    clear H
    go_wp2
    refine bodyPost_ret (v := .tuple #[ndV nd0, .bool false]) ?_ rfl ⟨rfl, (Below.refl _ _).alloc (Nat.le_refl _) _⟩
    rw [results_cell_tmp rfl]
    go_simp
    rfl
end
end Go.Proofs.Ytljclikholchmaa
