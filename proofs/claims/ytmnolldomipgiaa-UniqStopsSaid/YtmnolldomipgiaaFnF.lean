/- What each law asks of a table, over any later world; layer 10 (uniq). -/
import Derived.Test.YtmnolldomipgiaaFnE
import Derived.Test.YtmnolldomipgiaaOpn
namespace Go.Proofs.Ytmnolldomipgiaa
open Go.RowKit Go.Shelf Go.Maps

theorem UT.nocell {w : World} {b n : Nat} {M : List En} (h : UT w b n M) (o : Nat) : w.cell? ⟨b, o, none⟩ = none := by
  obtain ⟨D, hown, _⟩ := h
  obtain ⟨es, clock, h1, _⟩ := hown
  simp [World.cell?, h1]
theorem RowE.turn {B : Nat} {w w' : World} {A : Option Addr} {l : List En} {b n : Nat} {M : List En} (h : RowE B w A l) (hu : UT w b n M) (hg : w.grownBy w' (some b)) (hB : B ≤ w.heap.size) : RowE w'.heap.size w' A l := fun hl => by
  obtain ⟨g, f, e, h1, h2⟩ := h hl
  have hne : g ≠ b := fun q => by
    obtain ⟨q0, _⟩ := h2 0 hl
    rw [q, hu.nocell] at q0
    cases q0
  have hc : ∀ o, w'.cell? ⟨g, o, none⟩ = w.cell? ⟨g, o, none⟩ := fun o => World.cell?_of_block (hg.block g (by omega) (by simp [hne]))
  refine ⟨g, f, e, by have := hg.size; omega, fun k hk => ?_⟩
  obtain ⟨x0, x1, x2⟩ := h2 k hk
  exact ⟨(hc _).trans x0, (hc _).trans x1, (hc _).trans x2⟩
theorem RowE.on {w w' : World} {A : Option Addr} {l : List En} (h : RowE w.heap.size w A l) (hb : Below w.heap.size w w') : RowE w'.heap.size w' A l := fun hl => by
  obtain ⟨g, f, e, h1, h2⟩ := h.below hb (Nat.le_refl _) hl
  exact ⟨g, f, e, by have := hb.size; omega, h2⟩
section
variable {Z : Nat} {w0 w : World} {T b n : Nat} {M : List En}
theorem p_do (h : Own10 Z w0 w T b n M) (hs : Srt M) (x : Act) (hx : x.ok) (hn : n ≤ 1000000) :
    Calls Try.prog 9 #[.pointer (some ⟨T, 0, none⟩), .agg (actR x)] w fun e w' => e = .returned (.int .i64 (doE M x).2) ∧ Own10 Z w0 w' T b (n + 1) (doE M x).1 ∧ w.grownBy w' (some b) :=
  (l_do h.t hs x hx hn).mono (fun _e _w' ⟨h1, h2, h3⟩ => ⟨h1, h.step h2 h3, h3⟩)
theorem p_told (h : Own10 Z w0 w T b n M) (hs : Srt M) (hM : M.length ≤ 1000000) (most : Int) :
    Calls Try.prog 13 #[.pointer (some ⟨T, 0, none⟩), .int .i64 most] w fun e w' => ∃ A c, e = .returned (.tuple #[.slice A (M.take most.toNat).length c, .bool true]) ∧ RowE w'.heap.size w' A (M.take most.toNat) ∧ (M.take most.toNat).length ≤ c ∧ Below w.heap.size w w' :=
  (l_told (p := some ⟨T, 0, none⟩) (M := M) (fun W hW => e_entries (h.t.below hW) hs hM) hM most).mono (fun e w' ⟨v, h1, h2, h3⟩ => by
    obtain ⟨A, c, rfl, h4, h5⟩ := h2.row
    exact ⟨A, c, h1, h4, h5, h3⟩)
end
/-- The state of the law's loop: the program's table and the specification's. -/
structure RS (Z : Nat) (w0 w : World) (T b k : Nat) (M : List En) (A : Option Addr) (c : Nat) : Prop where
  own : Own10 Z w0 w T b k M
  srt : Srt M
  len : M.length ≤ k
  row : RowE w.heap.size w A M
  cap : M.length ≤ c
theorem RS.do_ {Z : Nat} {w0 w : World} {T b k : Nat} {M : List En} {A : Option Addr} {c : Nat} (h : RS Z w0 w T b k M A c) (x : Act) (hx : x.ok) (hk : k ≤ 100) :
    Calls Try.prog 8 #[.slice A M.length c, .agg (actR x)] (w.alloc (.cells (actR x) 28)) fun e w2 => ∃ A3 c3, e = .returned (.tuple #[.slice A3 (doE M x).1.length c3, .int .i64 (doE M x).2]) ∧ Blk w2 w.heap.size 28 (actR x) ∧
      Calls Try.prog 9 #[.pointer (some ⟨T, 0, none⟩), .agg (actR x)] w2 fun e w3 => e = .returned (.int .i64 (doE M x).2) ∧ RS Z w0 w3 T b (k + 1) (doE M x).1 A3 c3 := by
  have hb : Below w.heap.size w (w.alloc (.cells (actR x) 28)) := (Below.refl _ _).alloc (Nat.le_refl _) _
  have hl := h.len
  refine (r_Do M x A c _ (h.row.on hb) (by omega) h.cap).mono ?_
  rintro e w2 ⟨A3, c3, rfl, h1, h2, h3⟩
  refine ⟨A3, c3, rfl, (Blk.new w 28 (actR x)).below h2 (by simp), ?_⟩
  have ho := (h.own.below hb).below h2
  refine (p_do ho h.srt x hx (by omega)).mono ?_
  rintro e w3 ⟨rfl, h4, h5⟩
  exact ⟨rfl, h4, srt_do h.srt, by have := len_do (M := M) (x := x); omega, h1.turn ho.t.u h5 (Nat.le_refl _), h3⟩
end Go.Proofs.Ytmnolldomipgiaa
