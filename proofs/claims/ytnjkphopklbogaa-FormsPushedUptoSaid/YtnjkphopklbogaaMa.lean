/- Terms as trees; how a tree lies in memory; layer 30 (terms). Formulas as trees; how a formula lies in memory; layer 32 (forms). Contracts of numbers, lengths, kids and flaw of layer 30 (terms). The contract of visit of layer 30 (terms). Structural equality of trees; EqualFunc, Same and the specification's Same; layer 30 (terms). The contract of visit with a state whose size is bounded; layer 30 (terms). Slices of integers in memory; lists of integers; rows of the call's own. Texts in increasing order; the names of a term; layer 30 (terms). -/
import Derived.Test.YtnjkphopklbogaaRows
import Derived.WalkKit
import Derived.ProofKit
import Derived.OpenShut
import Derived.Handy
import Derived.Lib.Hide
import Derived.WalkLawsBesides
import Derived.PlainAid
import Derived.Laws.OwnMore
import Derived.Deep.Draws
import Derived.Laws.Rows
import Derived.Deep.QuietTactic
import Derived.BigQuiet
import Derived.Laws.CopyOwn
import Derived.Maps.AppendAt
import Derived.Deep.AppendLies
import Derived.OwnWalk
import Derived.Laws.AppendOwnNone
import Derived.Deep.LoopGhost
import Derived.Deep.Cut
import Derived.StillTailTactics
import Derived.IntWalk
import Derived.Laws.BytesArg
import Derived.Shelf.Slices.Reverse
import Derived.Lib.SlicesCompact
namespace Go.Proofs.Ytnjkphopklbogaa
open Go.RowKit

/-- A term: its operator, its N, its Name, its Kids. -/
inductive Ex where
  | mk (op v : Int) (nm : ByteArray) (ks : List Ex)
def Ex.op : Ex → Int | .mk o _ _ _ => o
def Ex.vr : Ex → Int | .mk _ v _ _ => v
def Ex.nm : Ex → ByteArray | .mk _ _ m _ => m
def Ex.ks : Ex → List Ex | .mk _ _ _ k => k
def ex0 : Ex := .mk 0 0 .empty []
mutual
def Ex.sz : Ex → Nat | .mk _ _ _ ks => 1 + szL ks
def szL : List Ex → Nat
  | [] => 0
  | t :: r => t.sz + szL r
end
theorem sz_eq (t : Ex) : t.sz = 1 + szL t.ks := by cases t; rfl
theorem szL_mem : ∀ {l : List Ex} {t : Ex}, t ∈ l → t.sz ≤ szL l
  | a :: r, t, h => by
    rw [szL]
    rcases List.mem_cons.1 h with rfl | h
    · omega
    · have := szL_mem h; omega
theorem szL_len : ∀ l : List Ex, l.length ≤ szL l
  | [] => Nat.le_refl _
  | a :: r => by
    rw [szL, List.length_cons]
    have := szL_len r
    have := sz_eq a
    omega
/-- The i-th of the Kids. -/
def kd (l : List Ex) (i : Nat) : Ex := l.getD i ex0
theorem kd_mem {l : List Ex} {i : Nat} (h : i < l.length) : kd l i ∈ l := by unfold kd; simp [List.getD, List.getElem?_eq_getElem h]
theorem kd_cons (t : Ex) (r : List Ex) (i : Nat) : kd (t :: r) (i + 1) = kd r i := rfl
theorem kd_drop {l : List Ex} {i : Nat} (h : i < l.length) : l.drop i = kd l i :: l.drop (i + 1) := by
  rw [List.drop_eq_getElem_cons h]; unfold kd; simp [List.getD, List.getElem?_eq_getElem h]
theorem kd_sz {t : Ex} {i : Nat} (h : i < t.ks.length) : (kd t.ks i).sz < t.sz := by
  have := szL_mem (kd_mem h)
  have := sz_eq t
  omega
/-- A term by value, its Kids at A. -/
abbrev exV (t : Ex) (A : Option Addr) (c : Nat) : Value := .agg #[.int .i64 t.op, .int .i64 t.vr, .string t.nm, .slice A t.ks.length c]
abbrev exC (t : Ex) (A : Option Addr) (c : Nat) : Array Value := #[.int .i64 t.op, .int .i64 t.vr, .string t.nm, .slice A t.ks.length c]
/-- The Kids of the tree lie at A, and theirs where they say, all below block B. -/
inductive Rep (B : Nat) (w : World) : Option Addr → Ex → Prop where
  | mk (A : Option Addr) (t : Ex) (ka : Nat → Option Addr) (kc : Nat → Nat)
      (hrow : 0 < t.ks.length → ∃ b f, A = some ⟨b, f, none⟩ ∧ b < B ∧ ∀ i, i < t.ks.length → w.cell? ⟨b, f + i * 4, none⟩ = some (.int .i64 (kd t.ks i).op) ∧ w.cell? ⟨b, f + i * 4 + 1, none⟩ = some (.int .i64 (kd t.ks i).vr) ∧ w.cell? ⟨b, f + i * 4 + 2, none⟩ = some (.string (kd t.ks i).nm) ∧ w.cell? ⟨b, f + i * 4 + 3, none⟩ = some (.slice (ka i) (kd t.ks i).ks.length (kc i)))
      (hkid : ∀ i, i < t.ks.length → Rep B w (ka i) (kd t.ks i)) : Rep B w A t
theorem Rep.out {B : Nat} {w : World} {A : Option Addr} {t : Ex} (h : Rep B w A t) (hp : 0 < t.ks.length) : ∃ b f, A = some ⟨b, f, none⟩ ∧ b < B ∧ ∀ i, i < t.ks.length → ∃ ka kc,
    w.cell? ⟨b, f + i * 4, none⟩ = some (.int .i64 (kd t.ks i).op) ∧ w.cell? ⟨b, f + i * 4 + 1, none⟩ = some (.int .i64 (kd t.ks i).vr) ∧ w.cell? ⟨b, f + i * 4 + 2, none⟩ = some (.string (kd t.ks i).nm) ∧ w.cell? ⟨b, f + i * 4 + 3, none⟩ = some (.slice ka (kd t.ks i).ks.length kc) ∧ Rep B w ka (kd t.ks i) := by
  cases h with
  | mk _ _ ka kc hrow hkid =>
    obtain ⟨b, f, e, hb, hc⟩ := hrow hp
    exact ⟨b, f, e, hb, fun i hi => ⟨ka i, kc i, (hc i hi).1, (hc i hi).2.1, (hc i hi).2.2.1, (hc i hi).2.2.2, hkid i hi⟩⟩
theorem Rep.leaf {B : Nat} {w : World} {A : Option Addr} {t : Ex} (h : t.ks = []) : Rep B w A t :=
  .mk A t (fun _ => none) (fun _ => 0) (fun hp => by rw [h] at hp; exact absurd hp (by simp)) (fun i hi => by rw [h] at hi; exact absurd hi (by simp))
theorem Rep.under {B : Nat} {w w' : World} {A : Option Addr} {t : Ex} (h : Rep B w A t) (hb : Below B w w') : Rep B w' A t := by
  induction h with
  | mk A t ka kc hrow hkid ih =>
    refine .mk A t ka kc (fun hp => ?_) ih
    obtain ⟨b, f, e, hB, hc⟩ := hrow hp
    exact ⟨b, f, e, hB, fun i hi => ⟨(hb.cell (p := ⟨b, f + i * 4, none⟩) hB).trans (hc i hi).1, (hb.cell (p := ⟨b, f + i * 4 + 1, none⟩) hB).trans (hc i hi).2.1, (hb.cell (p := ⟨b, f + i * 4 + 2, none⟩) hB).trans (hc i hi).2.2.1, (hb.cell (p := ⟨b, f + i * 4 + 3, none⟩) hB).trans (hc i hi).2.2.2⟩⟩
theorem Rep.more {B B' : Nat} {w : World} {A : Option Addr} {t : Ex} (h : Rep B w A t) (hB : B ≤ B') : Rep B' w A t := by
  induction h with
  | mk A t ka kc hrow hkid ih =>
    refine .mk A t ka kc (fun hp => ?_) ih
    obtain ⟨b, f, e, hb, hc⟩ := hrow hp
    exact ⟨b, f, e, by omega, hc⟩
theorem Rep.step {w w' : World} {A : Option Addr} {t : Ex} (h : Rep w.heap.size w A t) (hb : Below w.heap.size w w') : Rep w'.heap.size w' A t := (h.under hb).more hb.size
/-- A tree built of Kids that lie: the row of the Kids at ⟨b, f⟩. -/
theorem Rep.node {B : Nat} {w : World} {b f : Nat} {t : Ex} (hb : b < B) (hk : ∀ i, i < t.ks.length → ∃ ka kc, w.cell? ⟨b, f + i * 4, none⟩ = some (.int .i64 (kd t.ks i).op) ∧ w.cell? ⟨b, f + i * 4 + 1, none⟩ = some (.int .i64 (kd t.ks i).vr) ∧ w.cell? ⟨b, f + i * 4 + 2, none⟩ = some (.string (kd t.ks i).nm) ∧ w.cell? ⟨b, f + i * 4 + 3, none⟩ = some (.slice ka (kd t.ks i).ks.length kc) ∧ Rep B w ka (kd t.ks i)) : Rep B w (some ⟨b, f, none⟩) t := by
  have hx : ∀ i, ∃ p : Option Addr × Nat, i < t.ks.length → w.cell? ⟨b, f + i * 4, none⟩ = some (.int .i64 (kd t.ks i).op) ∧ w.cell? ⟨b, f + i * 4 + 1, none⟩ = some (.int .i64 (kd t.ks i).vr) ∧ w.cell? ⟨b, f + i * 4 + 2, none⟩ = some (.string (kd t.ks i).nm) ∧ w.cell? ⟨b, f + i * 4 + 3, none⟩ = some (.slice p.1 (kd t.ks i).ks.length p.2) ∧ Rep B w p.1 (kd t.ks i) := fun i => by
    by_cases hi : i < t.ks.length
    · obtain ⟨ka, kc, h⟩ := hk i hi
      exact ⟨(ka, kc), fun _ => h⟩
    · exact ⟨(none, 0), fun h => absurd h hi⟩
  exact .mk _ t (fun i => (hx i).choose.1) (fun i => (hx i).choose.2) (fun _ => ⟨b, f, rfl, hb, fun i hi => ⟨((hx i).choose_spec hi).1, ((hx i).choose_spec hi).2.1, ((hx i).choose_spec hi).2.2.1, ((hx i).choose_spec hi).2.2.2.1⟩⟩) (fun i hi => ((hx i).choose_spec hi).2.2.2.2)
def Blk (w : World) (g : Nat) (t : TypeId) (cs : Array Value) : Prop := w.heap[g]? = some (.cells cs t (0, 0))
section
variable {w w' : World} {g B : Nat} {t : TypeId} {cs : Array Value}
theorem Blk.new (w : World) (t : TypeId) (cs : Array Value) : Blk (w.alloc (.cells cs t)) w.heap.size t cs := heap_alloc_new w _
theorem Blk.lt (h : Blk w g t cs) : g < w.heap.size := by
  rcases Nat.lt_or_ge g w.heap.size with hlt | hge
  · exact hlt
  · unfold Blk at h; rw [Array.getElem?_eq_none hge] at h; cases h
theorem Blk.cell (h : Blk w g t cs) (j : Nat) : w.cell? ⟨g, j, none⟩ = cs[j]? := cell_of_row w g j cs t (0, 0) h
theorem Blk.frozen (h : Blk w g t cs) (i : Nat) : w.frozen? ⟨g, i, none⟩ = false := by
  unfold Blk at h
  simp [World.frozen?, h]
theorem Blk.drewN (h : Blk w g t cs) (n : Nat) : Blk (w.drewN n) g t cs := h
theorem Blk.set_ (h : Blk w g t cs) (i : Nat) (u : Value) : Blk (w.setCell ⟨g, i, none⟩ u) g t (cs.setIfInBounds i u) := by
  unfold Blk at h ⊢
  simp [World.setCell, Array.getElem?_modify, h]
theorem Blk.set_other (h : Blk w g t cs) {b : Nat} (hb : b ≠ g) (i : Nat) (u : Value) : Blk (w.setCell ⟨b, i, none⟩ u) g t cs := by
  unfold Blk at h ⊢
  simp [World.setCell, Array.getElem?_modify, h, hb]
theorem Blk.below {B : Nat} (h : Blk w g t cs) (hb : Below B w w') (hg : g < B) : Blk w' g t cs := (hb.block g hg).trans h
end
theorem Blk.alloc {w : World} {g : Nat} {t : TypeId} {cs : Array Value} (h : Blk w g t cs) (o : Obj) : Blk (w.alloc o) g t cs := h.below ((Below.refl _ _).alloc (Nat.le_refl _) _) h.lt
/-- Of what lies in blocks outside S nothing has turned. -/
structure Frm (S : Nat → Prop) (w w' : World) : Prop where
  os : w'.os = w.os
  tape : w'.tape = w.tape
  output : w'.output = w.output
  size : w.heap.size ≤ w'.heap.size
  block : ∀ k, k < w.heap.size → ¬ S k → w'.heap[k]? = w.heap[k]?
theorem Frm.refl (S : Nat → Prop) (w : World) : Frm S w w := ⟨rfl, rfl, rfl, Nat.le_refl _, fun _ _ _ => rfl⟩
theorem Frm.trans {S : Nat → Prop} {a b c : World} (h : Frm S a b) (h2 : Frm S b c) : Frm S a c :=
  ⟨h2.os.trans h.os, h2.tape.trans h.tape, h2.output.trans h.output, Nat.le_trans h.size h2.size, fun k hk hs => (h2.block k (Nat.lt_of_lt_of_le hk h.size) hs).trans (h.block k hk hs)⟩
theorem Frm.mono {S S' : Nat → Prop} {a b : World} (h : Frm S a b) (hs : ∀ k, S k → S' k) : Frm S' a b := ⟨h.os, h.tape, h.output, h.size, fun k hk hn => h.block k hk (fun x => hn (hs k x))⟩
theorem Frm.of_below {S : Nat → Prop} {a b : World} (h : Below a.heap.size a b) : Frm S a b := ⟨h.os, h.tape, h.output, h.size, fun k hk _ => h.block k hk⟩
theorem Frm.below2 {S : Nat → Prop} {B : Nat} {a b : World} (h : Frm S a b) (hS : ∀ k, k < B → ¬ S k) (hB : B ≤ a.heap.size) : Below B a b := ⟨h.os, h.tape, h.output, h.size, fun k hk => h.block k (by omega) (hS k hk)⟩
theorem Frm.set {S : Nat → Prop} {a b : World} (h : Frm S a b) {g : Nat} (hg : S g) (i : Nat) (v : Value) : Frm S a (b.setCell ⟨g, i, none⟩ v) :=
  h.trans ⟨rfl, rfl, rfl, by simp, fun k _ hs => by
    have : g ≠ k := fun e => hs (e ▸ hg)
    simp [World.setCell, Array.getElem?_modify, this]⟩
theorem Frm.alloc {S : Nat → Prop} {a b : World} (h : Frm S a b) (o : Obj) : Frm S a (b.alloc o) := h.trans (Frm.of_below ((Below.refl _ _).alloc (Nat.le_refl _) _))
theorem Frm.drewN {S : Nat → Prop} {a b : World} (h : Frm S a b) (n : Nat) : Frm S a (b.drewN n) := h.trans (Frm.of_below (below_drewN (Below.refl _ _) n))
theorem Blk.frm {S : Nat → Prop} {w w' : World} {g : Nat} {t : TypeId} {cs : Array Value} (h : Blk w g t cs) (hf : Frm S w w') (hs : ¬ S g) : Blk w' g t cs := (hf.block g h.lt hs).trans h
theorem bcell {W w1 : World} {B : Nat} (hb : Below B W w1) : (∀ b o, b < B → w1.cell? ⟨b, o, none⟩ = W.cell? ⟨b, o, none⟩) ∧ (∀ b o, b < B → w1.frozen? ⟨b, o, none⟩ = W.frozen? ⟨b, o, none⟩) :=
  ⟨fun b o h => hb.cell (p := ⟨b, o, none⟩) h, fun b o h => hb.frozen (p := ⟨b, o, none⟩) h⟩
theorem bt {w w1 w2 : World} (h : Below w.heap.size w w1) (h2 : Below w1.heap.size w1 w2) : Below w.heap.size w w2 := h.trans (h2.mono h.size)
theorem al {w w1 : World} (h : Below w.heap.size w w1) (o : Obj) : Below w.heap.size w (w1.alloc o) := h.alloc h.size o
end Go.Proofs.Ytnjkphopklbogaa
namespace Go.Proofs.Ytnjkphopklbogaa
open Go.RowKit

/-- A formula: its operator, its term, its Kids. -/
inductive Fx where
  | mk (op : Int) (e : Ex) (ks : List Fx)
def Fx.op : Fx → Int | .mk o _ _ => o
def Fx.e : Fx → Ex | .mk _ e _ => e
def Fx.ks : Fx → List Fx | .mk _ _ k => k
def fx0 : Fx := .mk 0 ex0 []
mutual
def Fx.sz : Fx → Nat | .mk _ e ks => e.sz + fszL ks
def fszL : List Fx → Nat
  | [] => 0
  | t :: r => t.sz + fszL r
end
theorem fsz_eq (t : Fx) : t.sz = t.e.sz + fszL t.ks := by cases t; rfl
theorem sz_pos (t : Ex) : 1 ≤ t.sz := by have := sz_eq t; omega
theorem fsz_pos (t : Fx) : 1 ≤ t.sz := by have := fsz_eq t; have := sz_pos t.e; omega
theorem fszL_mem : ∀ {l : List Fx} {t : Fx}, t ∈ l → t.sz ≤ fszL l
  | a :: r, t, h => by
    rw [fszL]
    rcases List.mem_cons.1 h with rfl | h
    · omega
    · have := fszL_mem h; omega
theorem fszL_len : ∀ l : List Fx, l.length ≤ fszL l
  | [] => Nat.le_refl _
  | a :: r => by
    rw [fszL, List.length_cons]
    have := fszL_len r
    have := fsz_pos a
    omega
/-- The i-th of the Kids. -/
def fkd (l : List Fx) (i : Nat) : Fx := l.getD i fx0
theorem fkd_mem {l : List Fx} {i : Nat} (h : i < l.length) : fkd l i ∈ l := by unfold fkd; simp [List.getD, List.getElem?_eq_getElem h]
theorem fkd_cons (t : Fx) (r : List Fx) (i : Nat) : fkd (t :: r) (i + 1) = fkd r i := rfl
theorem fkd_drop {l : List Fx} {i : Nat} (h : i < l.length) : l.drop i = fkd l i :: l.drop (i + 1) := by
  rw [List.drop_eq_getElem_cons h]; unfold fkd; simp [List.getD, List.getElem?_eq_getElem h]
theorem fkd_sz {t : Fx} {i : Nat} (h : i < t.ks.length) : (fkd t.ks i).sz < t.sz := by
  have := fszL_mem (fkd_mem h)
  have := fsz_eq t
  have := sz_pos t.e
  omega
theorem fe_sz (t : Fx) : t.e.sz ≤ t.sz := by have := fsz_eq t; omega
theorem fkl_sz (t : Fx) : t.ks.length + 1 ≤ t.sz := by have := fsz_eq t; have := sz_pos t.e; have := fszL_len t.ks; omega
/-- A formula by value, its term's Kids at E, its own at A. -/
abbrev fV (t : Fx) (E : Option Addr) (d : Nat) (A : Option Addr) (c : Nat) : Value := .agg #[.int .i64 t.op, .int .i64 t.e.op, .int .i64 t.e.vr, .string t.e.nm, .slice E t.e.ks.length d, .slice A t.ks.length c]
abbrev fC (t : Fx) (E : Option Addr) (d : Nat) (A : Option Addr) (c : Nat) : Array Value := #[.int .i64 t.op, .int .i64 t.e.op, .int .i64 t.e.vr, .string t.e.nm, .slice E t.e.ks.length d, .slice A t.ks.length c]
/-- The cells of a formula at ⟨b, f⟩. -/
structure FAt (w : World) (b f : Nat) (t : Fx) (E : Option Addr) (d : Nat) (A : Option Addr) (c : Nat) : Prop where
  c0 : w.cell? ⟨b, f, none⟩ = some (.int .i64 t.op)
  c1 : w.cell? ⟨b, f + 1, none⟩ = some (.int .i64 t.e.op)
  c2 : w.cell? ⟨b, f + 2, none⟩ = some (.int .i64 t.e.vr)
  c3 : w.cell? ⟨b, f + 3, none⟩ = some (.string t.e.nm)
  c4 : w.cell? ⟨b, f + 4, none⟩ = some (.slice E t.e.ks.length d)
  c5 : w.cell? ⟨b, f + 5, none⟩ = some (.slice A t.ks.length c)
theorem FAt.turn {w w' : World} {b f : Nat} {t : Fx} {E A : Option Addr} {d c : Nat} (h : FAt w b f t E d A c) (hw : ∀ o, w'.cell? ⟨b, o, none⟩ = w.cell? ⟨b, o, none⟩) : FAt w' b f t E d A c :=
  ⟨(hw _).trans h.c0, (hw _).trans h.c1, (hw _).trans h.c2, (hw _).trans h.c3, (hw _).trans h.c4, (hw _).trans h.c5⟩
theorem FAt.below {B : Nat} {w w' : World} {b f : Nat} {t : Fx} {E A : Option Addr} {d c : Nat} (h : FAt w b f t E d A c) (hb : Below B w w') (hB : b < B) : FAt w' b f t E d A c :=
  h.turn fun o => hb.cell (p := ⟨b, o, none⟩) hB
theorem FAt.blk {w : World} {g : Nat} {t : Fx} {E A : Option Addr} {d c : Nat} {ty : TypeId} (h : Blk w g ty (fC t E d A c)) : FAt w g 0 t E d A c :=
  ⟨h.cell 0, h.cell 1, h.cell 2, h.cell 3, h.cell 4, h.cell 5⟩
/-- The Kids of the formula lie at A, and what is nested in them where they say, all below block B. -/
inductive RepF (B : Nat) (w : World) : Option Addr → Fx → Prop where
  | mk (A : Option Addr) (t : Fx) (ka ea : Nat → Option Addr) (kc ec : Nat → Nat)
      (hrow : 0 < t.ks.length → ∃ b f, A = some ⟨b, f, none⟩ ∧ b < B ∧ ∀ i, i < t.ks.length → FAt w b (f + i * 6) (fkd t.ks i) (ea i) (ec i) (ka i) (kc i))
      (hterm : ∀ i, i < t.ks.length → Rep B w (ea i) (fkd t.ks i).e)
      (hkid : ∀ i, i < t.ks.length → RepF B w (ka i) (fkd t.ks i)) : RepF B w A t
theorem RepF.out {B : Nat} {w : World} {A : Option Addr} {t : Fx} (h : RepF B w A t) (hp : 0 < t.ks.length) : ∃ b f, A = some ⟨b, f, none⟩ ∧ b < B ∧ ∀ i, i < t.ks.length → ∃ ea ec ka kc, FAt w b (f + i * 6) (fkd t.ks i) ea ec ka kc ∧ Rep B w ea (fkd t.ks i).e ∧ RepF B w ka (fkd t.ks i) := by
  cases h with
  | mk _ _ ka ea kc ec hrow hterm hkid =>
    obtain ⟨b, f, e, hb, hc⟩ := hrow hp
    exact ⟨b, f, e, hb, fun i hi => ⟨ea i, ec i, ka i, kc i, hc i hi, hterm i hi, hkid i hi⟩⟩
theorem RepF.leaf {B : Nat} {w : World} {A : Option Addr} {t : Fx} (h : t.ks = []) : RepF B w A t :=
  .mk A t (fun _ => none) (fun _ => none) (fun _ => 0) (fun _ => 0) (fun hp => by rw [h] at hp; exact absurd hp (by simp)) (fun i hi => by rw [h] at hi; exact absurd hi (by simp)) (fun i hi => by rw [h] at hi; exact absurd hi (by simp))
theorem RepF.under {B : Nat} {w w' : World} {A : Option Addr} {t : Fx} (h : RepF B w A t) (hb : Below B w w') : RepF B w' A t := by
  induction h with
  | mk A t ka ea kc ec hrow hterm hkid ih =>
    refine .mk A t ka ea kc ec (fun hp => ?_) (fun i hi => (hterm i hi).under hb) ih
    obtain ⟨b, f, e, hB, hc⟩ := hrow hp
    exact ⟨b, f, e, hB, fun i hi => (hc i hi).below hb hB⟩
theorem RepF.more {B B' : Nat} {w : World} {A : Option Addr} {t : Fx} (h : RepF B w A t) (hB : B ≤ B') : RepF B' w A t := by
  induction h with
  | mk A t ka ea kc ec hrow hterm hkid ih =>
    refine .mk A t ka ea kc ec (fun hp => ?_) (fun i hi => (hterm i hi).more hB) ih
    obtain ⟨b, f, e, hb, hc⟩ := hrow hp
    exact ⟨b, f, e, by omega, hc⟩
theorem RepF.step {w w' : World} {A : Option Addr} {t : Fx} (h : RepF w.heap.size w A t) (hb : Below w.heap.size w w') : RepF w'.heap.size w' A t := (h.under hb).more hb.size
/-- A formula whose Kids lie: the row of the Kids at ⟨b, f⟩. -/
theorem RepF.node {B : Nat} {w : World} {b f : Nat} {t : Fx} (hb : b < B) (hk : ∀ i, i < t.ks.length → ∃ ea ec ka kc, FAt w b (f + i * 6) (fkd t.ks i) ea ec ka kc ∧ Rep B w ea (fkd t.ks i).e ∧ RepF B w ka (fkd t.ks i)) : RepF B w (some ⟨b, f, none⟩) t := by
  have hx : ∀ i, ∃ p : (Option Addr × Nat) × (Option Addr × Nat), i < t.ks.length → FAt w b (f + i * 6) (fkd t.ks i) p.1.1 p.1.2 p.2.1 p.2.2 ∧ Rep B w p.1.1 (fkd t.ks i).e ∧ RepF B w p.2.1 (fkd t.ks i) := fun i => by
    by_cases hi : i < t.ks.length
    · obtain ⟨ea, ec, ka, kc, h⟩ := hk i hi
      exact ⟨((ea, ec), (ka, kc)), fun _ => h⟩
    · exact ⟨((none, 0), (none, 0)), fun h => absurd h hi⟩
  obtain ⟨g, hg⟩ : ∃ g : Nat → (Option Addr × Nat) × (Option Addr × Nat), ∀ i, i < t.ks.length → FAt w b (f + i * 6) (fkd t.ks i) (g i).1.1 (g i).1.2 (g i).2.1 (g i).2.2 ∧ Rep B w (g i).1.1 (fkd t.ks i).e ∧ RepF B w (g i).2.1 (fkd t.ks i) := ⟨fun i => (hx i).choose, fun i => (hx i).choose_spec⟩
  exact .mk _ t (fun i => (g i).2.1) (fun i => (g i).1.1) (fun i => (g i).2.2) (fun i => (g i).1.2) (fun _ => ⟨b, f, rfl, hb, fun i hi => (hg i hi).1⟩) (fun i hi => (hg i hi).2.1) (fun i hi => (hg i hi).2.2)
/-- A formula by value in a world: its term and its Kids lie below B. -/
def Fm (B : Nat) (w : World) (t : Fx) (E A : Option Addr) : Prop := Rep B w E t.e ∧ RepF B w A t
theorem Fm.under {B : Nat} {w w' : World} {t : Fx} {E A : Option Addr} (h : Fm B w t E A) (hb : Below B w w') : Fm B w' t E A := ⟨h.1.under hb, h.2.under hb⟩
theorem Fm.more {B B' : Nat} {w : World} {t : Fx} {E A : Option Addr} (h : Fm B w t E A) (hB : B ≤ B') : Fm B' w t E A := ⟨h.1.more hB, h.2.more hB⟩
theorem Fm.step {w w' : World} {t : Fx} {E A : Option Addr} (h : Fm w.heap.size w t E A) (hb : Below w.heap.size w w') : Fm w'.heap.size w' t E A := (h.under hb).more hb.size
end Go.Proofs.Ytnjkphopklbogaa
namespace Go.Proofs.Ytnjkphopklbogaa
open Go.RowKit

def numL (o : Int) : Int := if o = 1 then -255 else 0
def numM (o : Int) : Int := if o = 1 then 255 else if o = 2 then 1 else 0
def lenL (o : Int) : Int := if o = 3 ∨ o = 4 then 1 else 0
def lenM (o : Int) : Int := if o = 3 ∨ o = 4 then 24 else 0
def kidL (o : Int) : Int := if o = 1 ∨ o = 2 ∨ o = 3 ∨ o = 4 then 0 else if o = 5 ∨ o = 6 ∨ o = 7 then 1 else if o = 18 then 3 else 2
def kidM (o : Int) : Int := if o = 1 ∨ o = 2 ∨ o = 3 ∨ o = 4 then 0 else if o = 5 then 1 else if o = 6 ∨ o = 7 then 64 else if o = 18 then 3 else 2
set_option maxHeartbeats 1000000 in
theorem pr_numbers (o : Int) (w : World) : Calls Try.prog 108 #[.int .i64 o] w fun e w' => e = .returned (.tuple #[.int .i64 (numL o), .int .i64 (numM o)]) ∧ w = w' := by
  by_cases h1 : o = 1
  · subst h1; go_enter Try.func108, Try.ntmps108; go_wp2; go_ret2; exact ⟨rfl, rfl⟩
  by_cases h2 : o = 2
  · subst h2; go_enter Try.func108, Try.ntmps108; go_wp2; go_ret2; exact ⟨rfl, rfl⟩
  have X : Hid (numL o = 0 ∧ numM o = 0) := Lib.hid (by simp [numL, numM, h1, h2])
  have e1 : (o == 1) = false := by simp [h1]
  have e2 : (o == 2) = false := by simp [h2]
  go_enter Try.func108, Try.ntmps108
  go_wp2
  go_ret2
  exact ⟨by rw [X.out.1, X.out.2]; rfl, rfl⟩
set_option maxHeartbeats 1000000 in
theorem pr_lengths (o : Int) (w : World) : Calls Try.prog 109 #[.int .i64 o] w fun e w' => e = .returned (.tuple #[.int .i64 (lenL o), .int .i64 (lenM o)]) ∧ w = w' := by
  by_cases h3 : o = 3
  · subst h3; go_enter Try.func109, Try.ntmps109; go_wp2; go_ret2; exact ⟨rfl, rfl⟩
  by_cases h4 : o = 4
  · subst h4; go_enter Try.func109, Try.ntmps109; go_wp2; go_ret2; exact ⟨rfl, rfl⟩
  have X : Hid (lenL o = 0 ∧ lenM o = 0) := Lib.hid (by simp [lenL, lenM, h3, h4])
  have e3 : (o == 3) = false := by simp [h3]
  have e4 : (o == 4) = false := by simp [h4]
  go_enter Try.func109, Try.ntmps109
  go_wp2
  go_ret2
  exact ⟨by rw [X.out.1, X.out.2]; rfl, rfl⟩
set_option maxHeartbeats 1000000 in
theorem pr_kids (o : Int) (w : World) : Calls Try.prog 110 #[.int .i64 o] w fun e w' => e = .returned (.tuple #[.int .i64 (kidL o), .int .i64 (kidM o)]) ∧ w = w' := by
  by_cases h1 : o = 1
  · subst h1; go_enter Try.func110, Try.ntmps110; go_wp2; go_ret2; exact ⟨rfl, rfl⟩
  by_cases h2 : o = 2
  · subst h2; go_enter Try.func110, Try.ntmps110; go_wp2; go_ret2; exact ⟨rfl, rfl⟩
  by_cases h3 : o = 3
  · subst h3; go_enter Try.func110, Try.ntmps110; go_wp2; go_ret2; exact ⟨rfl, rfl⟩
  by_cases h4 : o = 4
  · subst h4; go_enter Try.func110, Try.ntmps110; go_wp2; go_ret2; exact ⟨rfl, rfl⟩
  by_cases h5 : o = 5
  · subst h5; go_enter Try.func110, Try.ntmps110; go_wp2; go_ret2; exact ⟨rfl, rfl⟩
  by_cases h6 : o = 6
  · subst h6; go_enter Try.func110, Try.ntmps110; go_wp2; go_ret2; exact ⟨rfl, rfl⟩
  by_cases h7 : o = 7
  · subst h7; go_enter Try.func110, Try.ntmps110; go_wp2; go_ret2; exact ⟨rfl, rfl⟩
  by_cases h18 : o = 18
  · subst h18; go_enter Try.func110, Try.ntmps110; go_wp2; go_ret2; exact ⟨rfl, rfl⟩
  have X : Hid (kidL o = 2 ∧ kidM o = 2) := Lib.hid (by simp [kidL, kidM, h1, h2, h3, h4, h5, h6, h7, h18])
  have e1 : (o == 1) = false := by simp [h1]
  have e2 : (o == 2) = false := by simp [h2]
  have e3 : (o == 3) = false := by simp [h3]
  have e4 : (o == 4) = false := by simp [h4]
  have e5 : (o == 5) = false := by simp [h5]
  have e6 : (o == 6) = false := by simp [h6]
  have e7 : (o == 7) = false := by simp [h7]
  have e18 : (o == 18) = false := by simp [h18]
  go_enter Try.func110, Try.ntmps110
  go_wp2
  go_ret2
  exact ⟨by rw [X.out.1, X.out.2]; rfl, rfl⟩
def flawS (o v : Int) (L : Nat) (n : Int) (d k : Int) : Int :=
  if 64 < d then 17 else if o < 1 ∨ 18 < o then 11 else if v < numL o ∨ numM o < v then 2 else if (L : Int) < lenL o ∨ lenM o < (L : Int) then 12 else if n < kidL o ∨ kidM o < n then 3 else if 4096 < k then 4 else 0
set_option maxHeartbeats 4000000 in
theorem pr_flaw (o v : Int) (m : ByteArray) (n : Nat) (A : Option Addr) (c : Nat) (d k : Int) (w : World) : Calls Try.prog 98 #[.agg #[.int .i64 o, .int .i64 v, .string m, .slice A n c], .int .i64 d, .int .i64 k] w fun e w' => e = .returned (.int .i64 (flawS o v m.size n d k)) ∧ Below w.heap.size w w' := by
  have HN := Lib.hid (fun w => pr_numbers o w)
  have HL := Lib.hid (fun w => pr_lengths o w)
  have HK := Lib.hid (fun w => pr_kids o w)
  obtain ⟨R, hR⟩ : ∃ R, flawS o v m.size n d k = R := ⟨_, rfl⟩
  rw [hR]
  unfold flawS at hR
  generalize kidL o = kl at *
  generalize kidM o = km at *
  generalize numL o = nl at *
  generalize numM o = nm at *
  generalize lenL o = ll at *
  generalize lenM o = lm at *
  have HB : Hid (∀ ob, Below w.heap.size w (w.alloc ob)) := Lib.hid (fun ob => (Below.refl _ _).alloc (Nat.le_refl _) ob)
  by_cases h1 : 64 < d
  · have X : Hid (R = 17) := Lib.hid (by rw [← hR, if_pos (h1)])
    clear hR
    go_enter Try.func98, Try.ntmps98
    go_wp2_with (first | (go_at_call 108; refine (HN.out _).mono ?_; rintro e w1 ⟨rfl, rfl⟩) | (go_at_call 109; refine (HL.out _).mono ?_; rintro e w1 ⟨rfl, rfl⟩) | (go_at_call 110; refine (HK.out _).mono ?_; rintro e w1 ⟨rfl, rfl⟩))
    go_ret
    exact ⟨by rw [X.out]; rfl, HB.out _⟩
  rw [if_neg h1] at hR
  by_cases h2 : o < 1
  · have X : Hid (R = 11) := Lib.hid (by rw [← hR, if_pos (.inl h2)])
    clear hR
    go_enter Try.func98, Try.ntmps98
    go_wp2_with (first | (go_at_call 108; refine (HN.out _).mono ?_; rintro e w1 ⟨rfl, rfl⟩) | (go_at_call 109; refine (HL.out _).mono ?_; rintro e w1 ⟨rfl, rfl⟩) | (go_at_call 110; refine (HK.out _).mono ?_; rintro e w1 ⟨rfl, rfl⟩))
    go_ret
    exact ⟨by rw [X.out]; rfl, HB.out _⟩
  by_cases h3 : 18 < o
  · have X : Hid (R = 11) := Lib.hid (by rw [← hR, if_pos (.inr h3)])
    clear hR
    go_enter Try.func98, Try.ntmps98
    go_wp2_with (first | (go_at_call 108; refine (HN.out _).mono ?_; rintro e w1 ⟨rfl, rfl⟩) | (go_at_call 109; refine (HL.out _).mono ?_; rintro e w1 ⟨rfl, rfl⟩) | (go_at_call 110; refine (HK.out _).mono ?_; rintro e w1 ⟨rfl, rfl⟩))
    go_ret
    exact ⟨by rw [X.out]; rfl, HB.out _⟩
  rw [if_neg (by omega)] at hR
  by_cases h4 : v < nl
  · have X : Hid (R = 2) := Lib.hid (by rw [← hR, if_pos (.inl h4)])
    clear hR
    go_enter Try.func98, Try.ntmps98
    go_wp2_with (first | (go_at_call 108; refine (HN.out _).mono ?_; rintro e w1 ⟨rfl, rfl⟩) | (go_at_call 109; refine (HL.out _).mono ?_; rintro e w1 ⟨rfl, rfl⟩) | (go_at_call 110; refine (HK.out _).mono ?_; rintro e w1 ⟨rfl, rfl⟩))
    go_ret
    exact ⟨by rw [X.out]; rfl, HB.out _⟩
  by_cases h5 : nm < v
  · have X : Hid (R = 2) := Lib.hid (by rw [← hR, if_pos (.inr h5)])
    clear hR
    go_enter Try.func98, Try.ntmps98
    go_wp2_with (first | (go_at_call 108; refine (HN.out _).mono ?_; rintro e w1 ⟨rfl, rfl⟩) | (go_at_call 109; refine (HL.out _).mono ?_; rintro e w1 ⟨rfl, rfl⟩) | (go_at_call 110; refine (HK.out _).mono ?_; rintro e w1 ⟨rfl, rfl⟩))
    go_ret
    exact ⟨by rw [X.out]; rfl, HB.out _⟩
  rw [if_neg (by omega)] at hR
  by_cases h6 : (m.size : Int) < ll
  · have X : Hid (R = 12) := Lib.hid (by rw [← hR, if_pos (.inl h6)])
    clear hR
    go_enter Try.func98, Try.ntmps98
    go_wp2_with (first | (go_at_call 108; refine (HN.out _).mono ?_; rintro e w1 ⟨rfl, rfl⟩) | (go_at_call 109; refine (HL.out _).mono ?_; rintro e w1 ⟨rfl, rfl⟩) | (go_at_call 110; refine (HK.out _).mono ?_; rintro e w1 ⟨rfl, rfl⟩))
    go_ret
    exact ⟨by rw [X.out]; rfl, HB.out _⟩
  by_cases h7 : lm < (m.size : Int)
  · have X : Hid (R = 12) := Lib.hid (by rw [← hR, if_pos (.inr h7)])
    clear hR
    go_enter Try.func98, Try.ntmps98
    go_wp2_with (first | (go_at_call 108; refine (HN.out _).mono ?_; rintro e w1 ⟨rfl, rfl⟩) | (go_at_call 109; refine (HL.out _).mono ?_; rintro e w1 ⟨rfl, rfl⟩) | (go_at_call 110; refine (HK.out _).mono ?_; rintro e w1 ⟨rfl, rfl⟩))
    go_ret
    exact ⟨by rw [X.out]; rfl, HB.out _⟩
  rw [if_neg (by omega)] at hR
  by_cases h8 : (n : Int) < kl
  · have X : Hid (R = 3) := Lib.hid (by rw [← hR, if_pos (.inl h8)])
    clear hR
    go_enter Try.func98, Try.ntmps98
    go_wp2_with (first | (go_at_call 108; refine (HN.out _).mono ?_; rintro e w1 ⟨rfl, rfl⟩) | (go_at_call 109; refine (HL.out _).mono ?_; rintro e w1 ⟨rfl, rfl⟩) | (go_at_call 110; refine (HK.out _).mono ?_; rintro e w1 ⟨rfl, rfl⟩))
    go_ret
    exact ⟨by rw [X.out]; rfl, HB.out _⟩
  by_cases h9 : km < (n : Int)
  · have X : Hid (R = 3) := Lib.hid (by rw [← hR, if_pos (.inr h9)])
    clear hR
    go_enter Try.func98, Try.ntmps98
    go_wp2_with (first | (go_at_call 108; refine (HN.out _).mono ?_; rintro e w1 ⟨rfl, rfl⟩) | (go_at_call 109; refine (HL.out _).mono ?_; rintro e w1 ⟨rfl, rfl⟩) | (go_at_call 110; refine (HK.out _).mono ?_; rintro e w1 ⟨rfl, rfl⟩))
    go_ret
    exact ⟨by rw [X.out]; rfl, HB.out _⟩
  rw [if_neg (by omega)] at hR
  by_cases h10 : 4096 < k
  · have X : Hid (R = 4) := Lib.hid (by rw [← hR, if_pos (h10)])
    clear hR
    go_enter Try.func98, Try.ntmps98
    go_wp2_with (first | (go_at_call 108; refine (HN.out _).mono ?_; rintro e w1 ⟨rfl, rfl⟩) | (go_at_call 109; refine (HL.out _).mono ?_; rintro e w1 ⟨rfl, rfl⟩) | (go_at_call 110; refine (HK.out _).mono ?_; rintro e w1 ⟨rfl, rfl⟩))
    go_ret
    exact ⟨by rw [X.out]; rfl, HB.out _⟩
  · have X : Hid (R = 0) := Lib.hid (by rw [← hR, if_neg h10])
    clear hR
    go_enter Try.func98, Try.ntmps98
    go_wp2_with (first | (go_at_call 108; refine (HN.out _).mono ?_; rintro e w1 ⟨rfl, rfl⟩) | (go_at_call 109; refine (HL.out _).mono ?_; rintro e w1 ⟨rfl, rfl⟩) | (go_at_call 110; refine (HK.out _).mono ?_; rintro e w1 ⟨rfl, rfl⟩))
    go_ret
    exact ⟨by rw [X.out]; rfl, HB.out _⟩
end Go.Proofs.Ytnjkphopklbogaa
namespace Go.Proofs.Ytnjkphopklbogaa
open Go.RowKit

mutual
/-- What visit leaves of a state, and whether it went to the end. -/
def vis {σ : Type} (st : σ → Ex → Int → σ × Bool) : Ex → Int → σ → σ × Bool
  | .mk o v m ks, d, s => if (st s (.mk o v m ks) d).2 then visL st ks (d + 1) (st s (.mk o v m ks) d).1 else ((st s (.mk o v m ks) d).1, false)
def visL {σ : Type} (st : σ → Ex → Int → σ × Bool) : List Ex → Int → σ → σ × Bool
  | [], _, s => (s, true)
  | t :: r, d, s => if (vis st t d s).2 then visL st r d (vis st t d s).1 else ((vis st t d s).1, false)
end
theorem vis_eq {σ : Type} (st : σ → Ex → Int → σ × Bool) (t : Ex) (d : Int) (s : σ) : vis st t d s = if (st s t d).2 then visL st t.ks (d + 1) (st s t d).1 else ((st s t d).1, false) := by cases t; rfl
theorem visL_step {σ : Type} (st : σ → Ex → Int → σ × Bool) {l : List Ex} {k : Nat} (h : k < l.length) (d : Int) (s : σ) : visL st (l.drop k) d s = if (vis st (kd l k) d s).2 then visL st (l.drop (k + 1)) d (vis st (kd l k) d s).1 else ((vis st (kd l k) d s).1, false) := by
  rw [kd_drop h]; rfl
def doArgs (f : Nat) (x d p q : Value) : Array Value := if f = 0 then #[] else #[x, d, p, q]
abbrev Inv (σ : Type) := (Nat → Prop) → σ → World → Prop
def VisP {σ : Type} (I : Inv σ) (S : Nat → Prop) (w : World) (R : σ × Bool) (e : Ending) (w' : World) : Prop := e = .returned (.bool R.2) ∧ I S R.1 w' ∧ Frm S w w'
/-- What a state that is kept in memory must bear: other memory grows, S shrinks where it owns nothing and grows. -/
structure KeptI {σ : Type} (I : Inv σ) : Prop where
  step : ∀ S s w w', I S s w → Below w.heap.size w w' → I S s w'
  narrow : ∀ S s w h, I S s w → w.heap.size ≤ h → I (fun b => S b ∧ b ≠ h) s w
  widen : ∀ S S' s w, I S s w → (∀ b, S b → S' b) → I S' s w
set_option maxHeartbeats 4000000 in
theorem pr_visit {σ : Type} (f : Nat) (C : Array Value) (I : Inv σ) (st : σ → Ex → Int → σ × Bool) (B : Nat) (p q : Value) (hf : f = 97 ∧ C = #[p, q] ∨ f = 61 ∧ C = #[p, q])
    (hst : KeptI I)
    (hdo : ∀ S s w t A c (d : Int), I S s w → (∀ b, b < B → ¬ S b) → (∀ b, w.heap.size ≤ b → S b) → B ≤ w.heap.size → Rep B w A t → 0 ≤ d → d ≤ 1000000000 → Calls Try.prog f (doArgs f (exV t A c) (.int .i64 d) p q) w (VisP I S w (st s t d))) :
    ∀ (n : Nat) t, t.sz ≤ n → ∀ A c (d : Int) S s w, I S s w → (∀ b, b < B → ¬ S b) → (∀ b, w.heap.size ≤ b → S b) → B ≤ w.heap.size → Rep B w A t → 0 ≤ d → d + (n : Int) ≤ 1000000000 →
      Calls Try.prog 60 #[exV t A c, .int .i64 d, .func (.func f) #[] C] w (VisP I S w (vis st t d s)) := by
  intro n
  induction n with
  | zero => intro t h; have := sz_eq t; omega
  | succ n ih =>
    intro t ht A c d S s w hI hS hF hB hR hd0 hd1
    have HDO := Lib.hid hdo
    have HIH := Lib.hid ih
    have HI := Lib.hid hI
    have HR := Lib.hid hR
    have HST := Lib.hid hst
    have HS := Lib.hid hS
    have HF := Lib.hid hF
    clear hdo ih hI hR hst hS hF
    have hlen := szL_len t.ks
    have hszt := sz_eq t
    have hkb : t.ks.length ≤ 1000000000 := by omega
    clear hszt
    obtain ⟨R, hRR⟩ : ∃ R, vis st t d s = R := ⟨_, rfl⟩
    rw [hRR]
    rw [vis_eq] at hRR
    have HAL : Hid (∀ ob, Below w.heap.size w (w.alloc ob)) := Lib.hid (fun ob => (Below.refl _ _).alloc (Nat.le_refl _) ob)
    obtain ⟨h, hh⟩ : ∃ h, w.heap.size = h := ⟨_, rfl⟩
    obtain ⟨S1, hS1⟩ : ∃ S1, (fun b => S b ∧ b ≠ w.heap.size) = S1 := ⟨_, rfl⟩
    have HS1 : Hid (∀ b, S1 b → S b) := Lib.hid (fun b => by rw [← hS1]; exact fun x => x.1)
    have HSB : Hid (∀ b, b < B → ¬ S1 b) := Lib.hid (fun b hb x => HS.out b hb (HS1.out b x))
    have HSN : Hid (¬ S1 w.heap.size) := Lib.hid (by rw [← hS1]; exact fun x => x.2 rfl)
    have HSF : Hid (∀ b, w.heap.size + 1 ≤ b → S1 b) := Lib.hid (fun b hb => by rw [← hS1]; exact ⟨HF.out b (by omega), by omega⟩)
    have HI1 : Hid (I S1 s w) := Lib.hid (by rw [← hS1]; exact HST.out.narrow _ _ _ _ HI.out (Nat.le_refl _))
    clear hS1 hh
    obtain ⟨x, hx⟩ : ∃ x, st s t d = x := ⟨_, rfl⟩
    have hD := Lib.hid (fun w' (h0 : I S1 s w') (hF : ∀ b, w'.heap.size ≤ b → S1 b) h2 (h3 : Rep B w' A t) => HDO.out S1 s w' t A c d h0 HSB.out hF h2 h3 hd0 (by omega))
    rw [hx] at hRR hD
    obtain ⟨s1, b1⟩ := x
    clear hx
    have hE0 : Hid (Calls Try.prog f (doArgs f (exV t A c) (.int .i64 d) p q) (w.alloc (.cells (exC t A c) 24)) (VisP I S1 (w.alloc (.cells (exC t A c) 24)) (s1, b1))) :=
      Lib.hid (hD.out _ (HST.out.step _ _ _ _ HI1.out (HAL.out _)) (fun b hb => HSF.out b (by simpa using hb)) (by simp; omega) (HR.out.under ((HAL.out _).mono hB)))
    clear hD
    have HX : Hid (∀ w1, Frm S1 (w.alloc (.cells (exC t A c) 24)) w1 → Blk w1 w.heap.size 24 (exC t A c) ∧ Frm S w w1) := Lib.hid (fun w1 hf1 => ⟨(Blk.new w 24 _).frm hf1 HSN.out, (Frm.of_below (HAL.out _)).trans (hf1.mono HS1.out)⟩)
    rcases hf with ⟨rfl, rfl⟩ | ⟨rfl, rfl⟩
    all_goals
      first
        | (have hE : Hid (Calls Try.prog 97 #[exV t A c, .int .i64 d, p, q] (w.alloc (.cells (exC t A c) 24)) (VisP I S1 (w.alloc (.cells (exC t A c) 24)) (s1, b1))) := hE0)
        | (have hE : Hid (Calls Try.prog 61 #[exV t A c, .int .i64 d, p, q] (w.alloc (.cells (exC t A c) 24)) (VisP I S1 (w.alloc (.cells (exC t A c) 24)) (s1, b1))) := hE0)
      clear hE0
      cases b1
      · have X : Hid (R = (s1, false)) := Lib.hid hRR.symm
        clear hRR
        go_enter Try.func60, Try.ntmps60
        go_wp2_with ((first | go_at_call 97 | go_at_call 61); (with_reducible refine hE.out.mono ?_); rintro e w1 ⟨rfl, hI2, hb1⟩; have HI2 := Lib.hid hI2; have HB1 := Lib.hid hb1; clear hI2 hb1)
        go_ret
        rw [X.out]
        exact ⟨rfl, HST.out.widen _ _ _ _ HI2.out HS1.out, (HX.out _ HB1.out).2⟩
      · have hRR2 : visL st (t.ks.drop 0) (d + 1) s1 = R := hRR
        have X := Lib.hid hRR2
        clear hRR hRR2
        go_enter Try.func60, Try.ntmps60
        go_wp2_with ((first | go_at_call 97 | go_at_call 61); (with_reducible refine hE.out.mono ?_); rintro e w1 ⟨rfl, hI2, hb1⟩; have HI2 := Lib.hid hI2; have HB1 := Lib.hid hb1; have q0 : w1.cell? ⟨w.heap.size, 0, none⟩ = some (.int .i64 t.op) := (HX.out _ hb1).1.cell 0; have q1 : w1.cell? ⟨w.heap.size, 1, none⟩ = some (.int .i64 t.vr) := (HX.out _ hb1).1.cell 1; have q2 : w1.cell? ⟨w.heap.size, 2, none⟩ = some (.string t.nm) := (HX.out _ hb1).1.cell 2; have q3 : w1.cell? ⟨w.heap.size, 3, none⟩ = some (.slice A t.ks.length c) := (HX.out _ hb1).1.cell 3; clear hI2 hb1)
        go_loopw [17] (fun i wr => ∃ (k : Nat) (sk : σ), k ≤ t.ks.length ∧ i = .int .i64 (k : Int) ∧ Hid (visL st (t.ks.drop k) (d + 1) sk = R) ∧ Hid (I S1 sk wr) ∧ Hid (Frm S1 w1 wr)) (fun i _ => t.ks.length - (intOf i).toNat)
        case atStart => exact ⟨0, s1, Nat.zero_le _, rfl, X, HI2, Lib.hid (Frm.refl _ _)⟩
        case round =>
          obtain ⟨k, sk, hk, rfl, HV, HIk, HFk⟩ := hrel
          have HW : Hid (Frm S w wr) := Lib.hid ((HX.out _ HB1.out).2.trans (HFk.out.mono HS1.out))
          by_cases hlt : k < t.ks.length
          · have h1 : (k : Int) < (t.ks.length : Int) := by omega
            obtain ⟨b, f0, rfl, hb, hc⟩ := HR.out.out (by omega)
            obtain ⟨ka, kc, c0, c1, c2, c3, hRk⟩ := hc k hlt
            have hbw := HW.out.below2 HS.out hB
            have d0 := (hbw.cell (p := ⟨b, f0 + k * 4, none⟩) hb).trans c0
            have d1 := (hbw.cell (p := ⟨b, f0 + k * 4 + 1, none⟩) hb).trans c1
            have d2 := (hbw.cell (p := ⟨b, f0 + k * 4 + 2, none⟩) hb).trans c2
            have d3 := (hbw.cell (p := ⟨b, f0 + k * 4 + 3, none⟩) hb).trans c3
            have HRk := Lib.hid (hRk.under hbw)
            have hstep := visL_step st hlt (d + 1) sk
            rw [HV.out] at hstep
            have hu := kd_sz hlt
            have hd2 : d + 1 + (n : Int) ≤ 1000000000 := by omega
            have hszw := HW.out.size
            have hsz1 := HB1.out.size
            have hszr := HFk.out.size
            have hz1 : w.heap.size + 1 ≤ w1.heap.size := by simpa using hsz1
            clear hc c0 c1 c2 c3 hRk hbw hsz1
            generalize kd t.ks k = u at *
            obtain ⟨y, hy⟩ : ∃ y, vis st u (d + 1) sk = y := ⟨_, rfl⟩
            rw [hy] at hstep
            have hA : Below wr.heap.size wr (wr.alloc (.cells (exC u ka kc) 24)) := (Below.refl _ _).alloc (Nat.le_refl _) _
            have hszA : (wr.alloc (.cells (exC u ka kc) 24)).heap.size = wr.heap.size + 1 := by simp
            have HC := Lib.hid (HIH.out u (by omega) ka kc (d + 1) S1 sk (wr.alloc (.cells (exC u ka kc) 24)) (HST.out.step _ _ _ _ HIk.out hA) HSB.out (fun b hb => HSF.out b (by rw [hszA] at hb; omega)) (by rw [hszA]; omega) (HRk.out.under (hA.mono (by omega))) (by omega) hd2)
            rw [hy] at HC
            clear hA hszA
            have HFA : Hid (Frm S1 w1 (wr.alloc (.cells (exC u ka kc) 24))) := Lib.hid (HFk.out.alloc _)
            clear hy hu
            obtain ⟨s2, b2⟩ := y
            cases b2
            · have X2 : Hid (R = (s2, false)) := Lib.hid hstep
              clear hstep
              go_wp2_with (go_at_call 60; (with_reducible refine HC.out.mono ?_); rintro e w3 ⟨rfl, hI3, hb3⟩; have HI3 := Lib.hid hI3; have HB3 := Lib.hid hb3; clear hI3 hb3)
              go_ret
              rw [X2.out]
              exact ⟨rfl, HST.out.widen _ _ _ _ HI3.out HS1.out, (HX.out _ HB1.out).2.trans ((HFA.out.trans HB3.out).mono HS1.out)⟩
            · have X2 : Hid (visL st (t.ks.drop (k + 1)) (d + 1) s2 = R) := Lib.hid hstep.symm
              clear hstep
              go_wp2_with (go_at_call 60; (with_reducible refine HC.out.mono ?_); rintro e w3 ⟨rfl, hI3, hb3⟩; have HI3 := Lib.hid hI3; have HB3 := Lib.hid hb3; clear hI3 hb3)
              go_roundw
              case rel => exact ⟨k + 1, s2, by omega, by go_num, X2, HI3, Lib.hid (HFA.out.trans HB3.out)⟩
              case measure => simp [intOf]; try omega
          · have h1 : ¬ (k : Int) < (t.ks.length : Int) := by omega
            obtain rfl : k = t.ks.length := by omega
            have X2 : Hid (R = (sk, true)) := Lib.hid (by have := HV.out; rw [List.drop_length] at this; exact this.symm)
            go_wp2
            go_ret
            rw [X2.out]
            exact ⟨rfl, HST.out.widen _ _ _ _ HIk.out HS1.out, HW.out⟩
end Go.Proofs.Ytnjkphopklbogaa
namespace Go.Proofs.Ytnjkphopklbogaa
open Go.RowKit Go.PlainAid

theorem bal (w : World) (o : Obj) : Below w.heap.size w (w.alloc o) := (Below.refl _ _).alloc (Nat.le_refl _) o
def ValP (w : World) (b : Bool) (e : Ending) (w' : World) : Prop := e = .returned (.bool b) ∧ Below w.heap.size w w'
mutual
def eqE : Ex → Ex → Bool | .mk o v m ks, u => o == u.op && (v == u.vr && ((m.toList == u.nm.toList) && eqL ks u.ks))
def eqL : List Ex → List Ex → Bool
  | [], l => l.isEmpty
  | t :: r, l => match l with
    | [] => false
    | u :: s => eqE t u && eqL r s
end
theorem eqE_eq (t u : Ex) : eqE t u = (t.op == u.op && (t.vr == u.vr && ((t.nm.toList == u.nm.toList) && eqL t.ks u.ks))) := by cases t; rfl
mutual
theorem eqE_refl : ∀ t : Ex, eqE t t = true
  | .mk o v m ks => by
    show (o == o && (v == v && ((m.toList == m.toList) && eqL ks ks))) = true
    rw [eqL_refl ks]
    simp
theorem eqL_refl : ∀ l : List Ex, eqL l l = true
  | [] => rfl
  | t :: r => by
    show (eqE t t && eqL r r) = true
    rw [eqE_refl t, eqL_refl r]; rfl
end
mutual
theorem eqE_sz : ∀ t u : Ex, eqE t u = true → t.sz = u.sz
  | .mk o v m ks, .mk o' v' m' ks', h => by
    have h2 : (o == o' && (v == v' && ((m.toList == m'.toList) && eqL ks ks'))) = true := h
    simp only [Bool.and_eq_true] at h2
    have h3 := eqL_sz ks ks' h2.2.2.2
    have e1 := sz_eq (.mk o v m ks)
    have e2 := sz_eq (.mk o' v' m' ks')
    have e3 : (Ex.mk o v m ks).ks = ks := rfl
    have e4 : (Ex.mk o' v' m' ks').ks = ks' := rfl
    rw [e3] at e1
    rw [e4] at e2
    omega
theorem eqL_sz : ∀ l m : List Ex, eqL l m = true → szL l = szL m ∧ l.length = m.length
  | [], [], _ => ⟨rfl, rfl⟩
  | [], u :: s, h => by cases h
  | t :: r, [], h => by cases h
  | t :: r, u :: s, h => by
    have h2 : (eqE t u && eqL r s) = true := h
    simp only [Bool.and_eq_true] at h2
    have h3 := eqE_sz t u h2.1
    obtain ⟨h4, h5⟩ := eqL_sz r s h2.2
    refine ⟨?_, by simp [h5]⟩
    show t.sz + szL r = u.sz + szL s
    omega
end
theorem eqL_len {l m : List Ex} (h : l.length ≠ m.length) : eqL l m = false := by
  cases e : eqL l m with
  | false => rfl
  | true => exact absurd (eqL_sz l m e).2 h
theorem eqL_step {l m : List Ex} {i : Nat} (h : i < l.length) (h2 : i < m.length) : eqL (l.drop i) (m.drop i) = (eqE (kd l i) (kd m i) && eqL (l.drop (i + 1)) (m.drop (i + 1))) := by
  rw [kd_drop h, kd_drop h2]; rfl
def EqH (f : Nat) (ks us : List Ex) : Prop := ∀ i, i < ks.length → ∀ A c B d w, Rep w.heap.size w A (kd ks i) → Rep w.heap.size w B (kd us i) → Calls Try.prog f #[exV (kd ks i) A c, exV (kd us i) B d] w (ValP w (eqE (kd ks i) (kd us i)))
set_option maxRecDepth 100000 in
set_option maxHeartbeats 4000000 in
theorem pr_EqualFunc (t u : Ex) (A B : Option Addr) (c d : Nat) (w : World) (hA : Rep w.heap.size w A t) (hB : Rep w.heap.size w B u) (ht : t.ks.length ≤ 1000000000) (_hu : u.ks.length ≤ 1000000000) (hS : EqH 53 t.ks u.ks) :
    Calls Try.prog 77 #[.slice A t.ks.length c, .slice B u.ks.length d, .func (.func 53) #[] #[]] w (ValP w (eqL t.ks u.ks)) := by
  have HA := Lib.hid hA
  have HB := Lib.hid hB
  have HS := Lib.hid hS
  clear hA hB hS
  by_cases hl : t.ks.length = u.ks.length
  · have hne : ((t.ks.length : Int) != (u.ks.length : Int)) = false := by simp [hl]
    have hle : t.ks.length ≤ u.ks.length := by omega
    have hle2 : u.ks.length ≤ t.ks.length := by omega
    clear hl
    obtain ⟨R, hR⟩ : ∃ R, eqL t.ks u.ks = R := ⟨_, rfl⟩
    have HR0 : Hid (eqL (t.ks.drop 0) (u.ks.drop 0) = R) := Lib.hid hR
    rw [hR]
    clear hR
    go_enter Try.func77, Try.ntmps77
    go_wp2
    go_loopw [17] (fun i wr => ∃ k : Nat, k ≤ t.ks.length ∧ i = .int .i64 (k : Int) ∧ Hid (eqL (t.ks.drop k) (u.ks.drop k) = R) ∧ Hid (Below w.heap.size w wr)) (fun i _ => t.ks.length - (intOf i).toNat)
    case atStart => exact ⟨0, Nat.zero_le _, rfl, HR0, Lib.hid (Below.refl _ _)⟩
    case round =>
      obtain ⟨k, hk, rfl, HV, HW⟩ := hrel
      have hk0 : (0 : Int) ≤ (k : Int) := by omega
      by_cases hlt : k < t.ks.length
      · have hlt2 : k < u.ks.length := by omega
        have h1 : (k : Int) < (t.ks.length : Int) := by omega
        have h2 : (k : Int) < (u.ks.length : Int) := by omega
        obtain ⟨b, f0, rfl, hb, hc⟩ := HA.out.out (by omega)
        obtain ⟨b2, f2, rfl, hb2, hc2⟩ := HB.out.out (by omega)
        obtain ⟨ka, kc, c0, c1, c2, c3, hRk⟩ := hc k hlt
        obtain ⟨kb, kd2, e0, e1, e2, e3, hRk2⟩ := hc2 k hlt2
        have d0 := (HW.out.cell (p := ⟨b, f0 + k * 4, none⟩) hb).trans c0
        have d1 := (HW.out.cell (p := ⟨b, f0 + k * 4 + 1, none⟩) hb).trans c1
        have d2 := (HW.out.cell (p := ⟨b, f0 + k * 4 + 2, none⟩) hb).trans c2
        have d6 := (HW.out.cell (p := ⟨b, f0 + k * 4 + 3, none⟩) hb).trans c3
        have d3 := (HW.out.cell (p := ⟨b2, f2 + k * 4, none⟩) hb2).trans e0
        have d4 := (HW.out.cell (p := ⟨b2, f2 + k * 4 + 1, none⟩) hb2).trans e1
        have d5 := (HW.out.cell (p := ⟨b2, f2 + k * 4 + 2, none⟩) hb2).trans e2
        have d7 := (HW.out.cell (p := ⟨b2, f2 + k * 4 + 3, none⟩) hb2).trans e3
        have hzr := HW.out.size
        have g1 : b < wr.heap.size := by omega
        have g2 : b2 < wr.heap.size := by omega
        have hst := eqL_step hlt hlt2
        rw [HV.out] at hst
        have HC : Hid (∀ wx, Below wr.heap.size wr wx → Calls Try.prog 53 #[exV (kd t.ks k) ka kc, exV (kd u.ks k) kb kd2] wx (ValP wx (eqE (kd t.ks k) (kd u.ks k)))) := Lib.hid (fun wx hx => HS.out k hlt ka kc kb kd2 wx ((hRk.step HW.out).step hx) ((hRk2.step HW.out).step hx))
        have HAL : Hid (∀ o1 o2, Below wr.heap.size wr ((wr.alloc o1).alloc o2)) := Lib.hid (fun o1 o2 => bt (bal _ _) (bal _ _))
        obtain ⟨q, hq⟩ : ∃ q, eqE (kd t.ks k) (kd u.ks k) = q := ⟨_, rfl⟩
        rw [hq] at HC hst
        have HST := Lib.hid hst
        clear hst hq hc hc2 c0 c1 c2 c3 e0 e1 e2 e3 hRk hRk2 hb hb2 hzr
        generalize kd t.ks k = x1 at *
        generalize kd u.ks k = x2 at *
        cases q
        · have X : Hid (R = false) := Lib.hid HST.out
          go_wp2_with (go_at_call 53; (with_reducible refine (HC.out _ (HAL.out _ _)).mono ?_); rintro e w2 ⟨rfl, hb2⟩; have HB2 := Lib.hid hb2; clear hb2)
          go_ret
          exact ⟨by rw [X.out]; rfl, HW.out.trans ((bt (HAL.out _ _) HB2.out).mono HW.out.size)⟩
        · have X : Hid (eqL (t.ks.drop (k + 1)) (u.ks.drop (k + 1)) = R) := Lib.hid (by have := HST.out; simpa using this.symm)
          go_wp2_with (go_at_call 53; (with_reducible refine (HC.out _ (HAL.out _ _)).mono ?_); rintro e w2 ⟨rfl, hb2⟩; have HB2 := Lib.hid hb2; clear hb2)
          exact ⟨⟨k + 1, by omega, by go_num, X, Lib.hid (HW.out.trans ((bt (HAL.out _ _) HB2.out).mono HW.out.size))⟩, by simp [intOf]; omega⟩
      · have X : Hid (R = true) := Lib.hid (by
          have := HV.out
          rw [List.drop_of_length_le (by omega), List.drop_of_length_le (by omega)] at this
          rw [← this]; rfl)
        go_wp2
        go_ret
        exact ⟨by rw [X.out]; rfl, HW.out⟩
  · have hne : ((t.ks.length : Int) != (u.ks.length : Int)) = true := by simp; omega
    have X : Hid (eqL t.ks u.ks = false) := Lib.hid (eqL_len hl)
    clear hl
    go_enter Try.func77, Try.ntmps77
    go_wp2
    go_ret
    exact ⟨by rw [X.out]; rfl, Below.refl _ _⟩
set_option maxRecDepth 100000 in
set_option maxHeartbeats 4000000 in
theorem pr_Same : ∀ (n : Nat) (t : Ex), t.sz ≤ n → n ≤ 100000000 → ∀ (u : Ex), u.sz ≤ 100000000 → ∀ (A B : Option Addr) (c d : Nat) (w : World), Rep w.heap.size w A t → Rep w.heap.size w B u →
    Calls Try.prog 53 #[exV t A c, exV u B d] w (ValP w (eqE t u)) := by
  intro n
  induction n with
  | zero => intro t h; have := sz_eq t; omega
  | succ n ih =>
    intro t ht hn u hu A B c d w hA hB
    have h1 := szL_len t.ks
    have h2 := sz_eq t
    have h3 := szL_len u.ks
    have h4 := sz_eq u
    have HS : Hid (EqH 53 t.ks u.ks) := Lib.hid (fun i hi A c B d w ha hb => by
      have := kd_sz hi
      by_cases hj : i < u.ks.length
      · have := kd_sz hj
        exact ih (kd t.ks i) (by omega) (by omega) (kd u.ks i) (by omega) A B c d w ha hb
      · have e : kd u.ks i = ex0 := by unfold kd; rw [List.getD, List.getElem?_eq_none (by omega)]; rfl
        exact ih (kd t.ks i) (by omega) (by omega) (kd u.ks i) (by rw [e]; decide) A B c d w ha hb)
    have HE : Hid (∀ o1 o2, Calls Try.prog 77 #[.slice A t.ks.length c, .slice B u.ks.length d, .func (.func 53) #[] #[]] ((w.alloc o1).alloc o2) (ValP ((w.alloc o1).alloc o2) (eqL t.ks u.ks))) := Lib.hid (fun o1 o2 => pr_EqualFunc t u A B c d _ ((hA.step (bal _ _)).step (bal _ _)) ((hB.step (bal _ _)).step (bal _ _)) (by omega) (by omega) HS.out)
    have HAL : Hid (∀ o1 o2, Below w.heap.size w ((w.alloc o1).alloc o2)) := Lib.hid (fun o1 o2 => bt (bal _ _) (bal _ _))
    obtain ⟨R, hR⟩ : ∃ R, eqE t u = R := ⟨_, rfl⟩
    rw [hR]
    rw [eqE_eq] at hR
    clear h1 h2 h3 h4 HS ih hA hB ht hu hn
    obtain ⟨o, v, m, ks⟩ := t
    obtain ⟨o', v', m', us⟩ := u
    have hR' : (o == o' && (v == v' && ((m.toList == m'.toList) && eqL ks us))) = R := hR
    clear hR
    have HE2 : Hid (∀ o1 o2, Calls Try.prog 77 #[.slice A ks.length c, .slice B us.length d, .func (.func 53) #[] #[]] ((w.alloc o1).alloc o2) (ValP ((w.alloc o1).alloc o2) (eqL ks us))) := HE
    clear HE
    show Calls Try.prog 53 #[.agg #[.int .i64 o, .int .i64 v, .string m, .slice A ks.length c], .agg #[.int .i64 o', .int .i64 v', .string m', .slice B us.length d]] w (ValP w R)
    by_cases ho : o = o'
    · subst ho
      by_cases hv : v = v'
      · subst hv
        obtain ⟨q0, hq0⟩ : ∃ q0, (m.toList == m'.toList) = q0 := ⟨_, rfl⟩
        rw [hq0] at hR'
        cases q0
        · have X : Hid (R = false) := Lib.hid (by rw [← hR']; simp)
          clear hR'
          go_enter Try.func53, Try.ntmps53
          go_wp2
          go_ret
          exact ⟨by rw [X.out]; rfl, HAL.out _ _⟩
        · have X : Hid (R = eqL ks us) := Lib.hid (by rw [← hR']; simp)
          clear hR'
          generalize eqL ks us = q at *
          go_enter Try.func53, Try.ntmps53
          go_wp2_with (go_at_call 77; (with_reducible refine (HE2.out _ _).mono ?_); rintro e w2 ⟨rfl, hb2⟩; have HB2 := Lib.hid hb2; clear hb2)
          go_ret
          exact ⟨by rw [X.out]; rfl, bt (HAL.out _ _) HB2.out⟩
      · have hv1 : (v == v') = false := by simp [hv]
        have X : Hid (R = false) := Lib.hid (by rw [← hR', hv1]; simp)
        clear hR' hv
        go_enter Try.func53, Try.ntmps53
        go_wp2
        go_ret
        exact ⟨by rw [X.out]; rfl, HAL.out _ _⟩
    · have ho1 : (o == o') = false := by simp [ho]
      have X : Hid (R = false) := Lib.hid (by rw [← hR', ho1]; simp)
      clear hR' ho
      go_enter Try.func53, Try.ntmps53
      go_wp2
      go_ret
      exact ⟨by rw [X.out]; rfl, HAL.out _ _⟩
end Go.Proofs.Ytnjkphopklbogaa
namespace Go.Proofs.Ytnjkphopklbogaa
open Go.RowKit

mutual
theorem vis_mu {σ : Type} (st : σ → Ex → Int → σ × Bool) (mu : σ → Nat) (hmu : ∀ s t d, mu (st s t d).1 ≤ mu s + 1) : ∀ (t : Ex) (d : Int) (s : σ), mu (vis st t d s).1 ≤ mu s + t.sz
  | .mk o v m ks, d, s => by
    have h1 := hmu s (.mk o v m ks) d
    have h2 := visL_mu st mu hmu ks (d + 1) (st s (.mk o v m ks) d).1
    have hz : (Ex.mk o v m ks).sz = 1 + szL ks := rfl
    rw [vis_eq]
    split
    · show mu (visL st ks (d + 1) (st s (.mk o v m ks) d).1).1 ≤ _
      omega
    · show mu (st s (.mk o v m ks) d).1 ≤ _
      omega
theorem visL_mu {σ : Type} (st : σ → Ex → Int → σ × Bool) (mu : σ → Nat) (hmu : ∀ s t d, mu (st s t d).1 ≤ mu s + 1) : ∀ (l : List Ex) (d : Int) (s : σ), mu (visL st l d s).1 ≤ mu s + szL l
  | [], d, s => by show mu s ≤ mu s + 0; omega
  | t :: r, d, s => by
    have h1 := vis_mu st mu hmu t d s
    have h2 := visL_mu st mu hmu r d (vis st t d s).1
    have hz : szL (t :: r) = t.sz + szL r := rfl
    show mu (if (vis st t d s).2 then visL st r d (vis st t d s).1 else ((vis st t d s).1, false)).1 ≤ _
    split
    · omega
    · show mu (vis st t d s).1 ≤ _
      omega
end
set_option maxHeartbeats 4000000 in
theorem pr_visitM {σ : Type} (I : Inv σ) (st : σ → Ex → Int → σ × Bool) (B : Nat) (p q : Value) (mu : σ → Nat) (M : Nat) (hmu : ∀ s t d, mu (st s t d).1 ≤ mu s + 1)
    (hst : KeptI I)
    (hdo : ∀ S s w t A c (d : Int), I S s w → (∀ b, b < B → ¬ S b) → (∀ b, w.heap.size ≤ b → S b) → B ≤ w.heap.size → Rep B w A t → 0 ≤ d → d ≤ 1000000000 → mu s + 1 ≤ M → Calls Try.prog 61 #[exV t A c, .int .i64 d, p, q] w (VisP I S w (st s t d))) :
    ∀ (n : Nat) t, t.sz ≤ n → ∀ A c (d : Int) S s w, I S s w → (∀ b, b < B → ¬ S b) → (∀ b, w.heap.size ≤ b → S b) → B ≤ w.heap.size → Rep B w A t → 0 ≤ d → d + (n : Int) ≤ 1000000000 → mu s + t.sz ≤ M →
      Calls Try.prog 60 #[exV t A c, .int .i64 d, .func (.func 61) #[] #[p, q]] w (VisP I S w (vis st t d s)) := by
  intro n
  induction n with
  | zero => intro t h; have := sz_eq t; omega
  | succ n ih =>
    intro t ht A c d S s w hI hS hF hB hR hd0 hd1 hM
    have HDO := Lib.hid hdo
    have HIH := Lib.hid ih
    have HI := Lib.hid hI
    have HR := Lib.hid hR
    have HST := Lib.hid hst
    have HS := Lib.hid hS
    have HF := Lib.hid hF
    clear hdo ih hI hR hst hS hF
    have hlen := szL_len t.ks
    have hszt := sz_eq t
    have hkb : t.ks.length ≤ 1000000000 := by omega
    have HMU := Lib.hid hmu
    obtain ⟨R, hRR⟩ : ∃ R, vis st t d s = R := ⟨_, rfl⟩
    rw [hRR]
    rw [vis_eq] at hRR
    have HAL : Hid (∀ ob, Below w.heap.size w (w.alloc ob)) := Lib.hid (fun ob => (Below.refl _ _).alloc (Nat.le_refl _) ob)
    obtain ⟨h, hh⟩ : ∃ h, w.heap.size = h := ⟨_, rfl⟩
    obtain ⟨S1, hS1⟩ : ∃ S1, (fun b => S b ∧ b ≠ w.heap.size) = S1 := ⟨_, rfl⟩
    have HS1 : Hid (∀ b, S1 b → S b) := Lib.hid (fun b => by rw [← hS1]; exact fun x => x.1)
    have HSB : Hid (∀ b, b < B → ¬ S1 b) := Lib.hid (fun b hb x => HS.out b hb (HS1.out b x))
    have HSN : Hid (¬ S1 w.heap.size) := Lib.hid (by rw [← hS1]; exact fun x => x.2 rfl)
    have HSF : Hid (∀ b, w.heap.size + 1 ≤ b → S1 b) := Lib.hid (fun b hb => by rw [← hS1]; exact ⟨HF.out b (by omega), by omega⟩)
    have HI1 : Hid (I S1 s w) := Lib.hid (by rw [← hS1]; exact HST.out.narrow _ _ _ _ HI.out (Nat.le_refl _))
    clear hS1 hh
    obtain ⟨x, hx⟩ : ∃ x, st s t d = x := ⟨_, rfl⟩
    have hD := Lib.hid (fun w' (h0 : I S1 s w') (hF : ∀ b, w'.heap.size ≤ b → S1 b) h2 (h3 : Rep B w' A t) => HDO.out S1 s w' t A c d h0 HSB.out hF h2 h3 hd0 (by omega) (by omega))
    have hm1 := hmu s t d
    rw [hx] at hRR hD hm1
    obtain ⟨s1, b1⟩ := x
    have HM1 : Hid (mu s1 + szL (t.ks.drop 0) ≤ M) := Lib.hid (by have h : mu s1 ≤ mu s + 1 := hm1; show mu s1 + szL t.ks ≤ M; omega)
    clear hx hm1
    have hE : Hid (Calls Try.prog 61 #[exV t A c, .int .i64 d, p, q] (w.alloc (.cells (exC t A c) 24)) (VisP I S1 (w.alloc (.cells (exC t A c) 24)) (s1, b1))) :=
      Lib.hid (hD.out _ (HST.out.step _ _ _ _ HI1.out (HAL.out _)) (fun b hb => HSF.out b (by simpa using hb)) (by simp; omega) (HR.out.under ((HAL.out _).mono hB)))
    clear hD
    have HX : Hid (∀ w1, Frm S1 (w.alloc (.cells (exC t A c) 24)) w1 → Blk w1 w.heap.size 24 (exC t A c) ∧ Frm S w w1) := Lib.hid (fun w1 hf1 => ⟨(Blk.new w 24 _).frm hf1 HSN.out, (Frm.of_below (HAL.out _)).trans (hf1.mono HS1.out)⟩)
    clear hszt hM
    cases b1
    · have X : Hid (R = (s1, false)) := Lib.hid hRR.symm
      clear hRR
      go_enter Try.func60, Try.ntmps60
      go_wp2_with (go_at_call 61; (with_reducible refine hE.out.mono ?_); rintro e w1 ⟨rfl, hI2, hb1⟩; have HI2 := Lib.hid hI2; have HB1 := Lib.hid hb1; clear hI2 hb1)
      go_ret
      rw [X.out]
      exact ⟨rfl, HST.out.widen _ _ _ _ HI2.out HS1.out, (HX.out _ HB1.out).2⟩
    · have hRR2 : visL st (t.ks.drop 0) (d + 1) s1 = R := hRR
      have X := Lib.hid hRR2
      clear hRR hRR2
      go_enter Try.func60, Try.ntmps60
      go_wp2_with (go_at_call 61; (with_reducible refine hE.out.mono ?_); rintro e w1 ⟨rfl, hI2, hb1⟩; have HI2 := Lib.hid hI2; have HB1 := Lib.hid hb1; have q0 : w1.cell? ⟨w.heap.size, 0, none⟩ = some (.int .i64 t.op) := (HX.out _ hb1).1.cell 0; have q1 : w1.cell? ⟨w.heap.size, 1, none⟩ = some (.int .i64 t.vr) := (HX.out _ hb1).1.cell 1; have q2 : w1.cell? ⟨w.heap.size, 2, none⟩ = some (.string t.nm) := (HX.out _ hb1).1.cell 2; have q3 : w1.cell? ⟨w.heap.size, 3, none⟩ = some (.slice A t.ks.length c) := (HX.out _ hb1).1.cell 3; clear hI2 hb1)
      go_loopw [17] (fun i wr => ∃ (k : Nat) (sk : σ), k ≤ t.ks.length ∧ i = .int .i64 (k : Int) ∧ Hid (visL st (t.ks.drop k) (d + 1) sk = R) ∧ Hid (I S1 sk wr) ∧ Hid (Frm S1 w1 wr) ∧ Hid (mu sk + szL (t.ks.drop k) ≤ M)) (fun i _ => t.ks.length - (intOf i).toNat)
      case atStart => exact ⟨0, s1, Nat.zero_le _, rfl, X, HI2, Lib.hid (Frm.refl _ _), HM1⟩
      case round =>
        obtain ⟨k, sk, hk, rfl, HV, HIk, HFk, HMk⟩ := hrel
        have HW : Hid (Frm S w wr) := Lib.hid ((HX.out _ HB1.out).2.trans (HFk.out.mono HS1.out))
        by_cases hlt : k < t.ks.length
        · have h1 : (k : Int) < (t.ks.length : Int) := by omega
          obtain ⟨b, f0, rfl, hb, hc⟩ := HR.out.out (by omega)
          obtain ⟨ka, kc, c0, c1, c2, c3, hRk⟩ := hc k hlt
          have hbw := HW.out.below2 HS.out hB
          have d0 := (hbw.cell (p := ⟨b, f0 + k * 4, none⟩) hb).trans c0
          have d1 := (hbw.cell (p := ⟨b, f0 + k * 4 + 1, none⟩) hb).trans c1
          have d2 := (hbw.cell (p := ⟨b, f0 + k * 4 + 2, none⟩) hb).trans c2
          have d3 := (hbw.cell (p := ⟨b, f0 + k * 4 + 3, none⟩) hb).trans c3
          have HRk := Lib.hid (hRk.under hbw)
          have hstep := visL_step st hlt (d + 1) sk
          rw [HV.out] at hstep
          have hu := kd_sz hlt
          have hmk := HMk.out
          rw [kd_drop hlt] at hmk
          have hmk2 : mu sk + ((kd t.ks k).sz + szL (t.ks.drop (k + 1))) ≤ M := hmk
          have hmv := vis_mu st mu HMU.out (kd t.ks k) (d + 1) sk
          clear hmk
          have hd2 : d + 1 + (n : Int) ≤ 1000000000 := by omega
          have hszw := HW.out.size
          have hsz1 := HB1.out.size
          have hszr := HFk.out.size
          have hz1 : w.heap.size + 1 ≤ w1.heap.size := by simpa using hsz1
          clear hc c0 c1 c2 c3 hRk hbw hsz1
          generalize kd t.ks k = u at *
          obtain ⟨y, hy⟩ : ∃ y, vis st u (d + 1) sk = y := ⟨_, rfl⟩
          rw [hy] at hstep hmv
          have hA : Below wr.heap.size wr (wr.alloc (.cells (exC u ka kc) 24)) := (Below.refl _ _).alloc (Nat.le_refl _) _
          have hszA : (wr.alloc (.cells (exC u ka kc) 24)).heap.size = wr.heap.size + 1 := by simp
          have HC := Lib.hid (HIH.out u (by omega) ka kc (d + 1) S1 sk (wr.alloc (.cells (exC u ka kc) 24)) (HST.out.step _ _ _ _ HIk.out hA) HSB.out (fun b hb => HSF.out b (by rw [hszA] at hb; omega)) (by rw [hszA]; omega) (HRk.out.under (hA.mono (by omega))) (by omega) hd2 (by omega))
          rw [hy] at HC
          clear hA hszA
          have HFA : Hid (Frm S1 w1 (wr.alloc (.cells (exC u ka kc) 24))) := Lib.hid (HFk.out.alloc _)
          clear hy hu
          obtain ⟨s2, b2⟩ := y
          have HM2 : Hid (mu s2 + szL (t.ks.drop (k + 1)) ≤ M) := Lib.hid (by have h : mu s2 ≤ mu sk + u.sz := hmv; omega)
          clear hmv hmk2
          cases b2
          · have X2 : Hid (R = (s2, false)) := Lib.hid hstep
            clear hstep
            go_wp2_with (go_at_call 60; (with_reducible refine HC.out.mono ?_); rintro e w3 ⟨rfl, hI3, hb3⟩; have HI3 := Lib.hid hI3; have HB3 := Lib.hid hb3; clear hI3 hb3)
            go_ret
            rw [X2.out]
            exact ⟨rfl, HST.out.widen _ _ _ _ HI3.out HS1.out, (HX.out _ HB1.out).2.trans ((HFA.out.trans HB3.out).mono HS1.out)⟩
          · have X2 : Hid (visL st (t.ks.drop (k + 1)) (d + 1) s2 = R) := Lib.hid hstep.symm
            clear hstep
            go_wp2_with (go_at_call 60; (with_reducible refine HC.out.mono ?_); rintro e w3 ⟨rfl, hI3, hb3⟩; have HI3 := Lib.hid hI3; have HB3 := Lib.hid hb3; clear hI3 hb3)
            go_roundw
            case rel => exact ⟨k + 1, s2, by omega, by go_num, X2, HI3, Lib.hid (HFA.out.trans HB3.out), HM2⟩
            case measure => simp [intOf]; try omega
        · have h1 : ¬ (k : Int) < (t.ks.length : Int) := by omega
          obtain rfl : k = t.ks.length := by omega
          have X2 : Hid (R = (sk, true)) := Lib.hid (by have := HV.out; rw [List.drop_length] at this; exact this.symm)
          go_wp2
          go_ret
          rw [X2.out]
          exact ⟨rfl, HST.out.widen _ _ _ _ HIk.out HS1.out, HW.out⟩
end Go.Proofs.Ytnjkphopklbogaa
namespace Go.Proofs.Ytnjkphopklbogaa
open Go.RowKit

def li (l : List Int) (k : Nat) : Int := l.getD k 0
/-- The slice whose address is A reads as the integers l, below block B. -/
def RI (w : World) (B : Nat) (A : Option Addr) (l : List Int) : Prop :=
  0 < l.length → ∃ b off, A = some ⟨b, off, none⟩ ∧ b < B ∧ ∀ i, i < l.length → w.cell? ⟨b, off + i, none⟩ = some (.int .i64 (li l i))
section
variable {w w' : World} {B B' : Nat} {A : Option Addr} {l : List Int}
theorem RI.below (h : RI w B A l) (hb : Below B w w') : RI w' B A l := fun hl => by
  obtain ⟨b, off, e, hB, hc⟩ := h hl
  exact ⟨b, off, e, hB, fun i hi => (hb.cell (p := ⟨b, off + i, none⟩) hB).trans (hc i hi)⟩
theorem RI.more (h : RI w B A l) (hB : B ≤ B') : RI w B' A l := fun hl => by
  obtain ⟨b, off, e, hB, hc⟩ := h hl
  exact ⟨b, off, e, by omega, hc⟩
theorem RI.step (h : RI w w.heap.size A l) (hb : Below w.heap.size w w') : RI w' w'.heap.size A l := (h.below hb).more hb.size
theorem RI.nil : RI w B A [] := fun h => absurd h (by simp)
end
def intRow (l : List Int) : Array Value := (l.map (Value.int .i64)).toArray
theorem intRow_at {l : List Int} {i : Nat} (h : i < l.length) : (intRow l)[i]? = some (.int .i64 (li l i)) := by
  unfold intRow li; simp [h]
theorem intRow_set (l : List Int) (i : Nat) (b : Int) : (intRow l).setIfInBounds i (.int .i64 b) = intRow (l.set i b) := by
  unfold intRow; simp
theorem li_mem {l : List Int} {i : Nat} (h : i < l.length) : li l i ∈ l := by unfold li; simp [List.getD, List.getElem?_eq_getElem h]
theorem li_ext {a b : List Int} (h : a.length = b.length) (hk : ∀ i, i < a.length → li a i = li b i) : a = b := by
  apply List.ext_getElem h
  intro i h1 h2
  have := hk i h1
  unfold li at this
  simpa [List.getD, List.getElem?_eq_getElem h1, List.getElem?_eq_getElem h2] using this
theorem li_set {l : List Int} {i j : Nat} (hi : i < l.length) (x : Int) : li (l.set i x) j = if i = j then x else li l j := by
  unfold li; simp only [List.getD, List.getElem?_set]; split
  · rename_i h; subst h; simp
  · rfl
theorem RI.blk {w : World} {g B : Nat} {l : List Int} (h : Blk w g 3 (intRow l)) (hg : g < B) : RI w B (some ⟨g, 0, none⟩) l := fun _ =>
  ⟨g, 0, rfl, hg, fun i hi => by rw [h.cell, Nat.zero_add]; exact intRow_at hi⟩
theorem made_row (n : Nat) : madeCells #[Value.int .i64 0] n = intRow (List.replicate n 0) := by
  unfold madeCells intRow
  apply Array.ext
  · simp
  · intro i h1 h2
    simp
    rw [Nat.mod_one]; rfl
theorem info3 : (Try.prog.info? 3).map (fun i => (i.zero, i.size, i.bytes)) = some (some (.int .i64 0), 1, 8) := by kernel_rfl
theorem run_mk (n : Nat) (hn : n ≤ 1000000000000) (w : World) : (Instr.makeSlice 58 (.int .i64 (n : Int)) (.int .i64 (n : Int))).run Try.prog w = .ok (.slice (some ⟨w.heap.size, 0, none⟩) n n) (w.alloc (.cells (intRow (List.replicate n 0)) 3)) := by
  obtain ⟨i, hi, hz0, hz1, hz2⟩ := info_parts info3
  have h := run_make (P := Try.prog) w 58 3 i _ Try.underlying58 hi hz0 .i64 .i64 n n (by omega) (by omega) (by rw [hz2]; omega) (by omega)
  rw [hz1] at h
  simp only [Int.toNat_natCast, Nat.mul_one] at h
  rw [h]
  have e : (Value.int .i64 0).cells = #[Value.int .i64 0] := rfl
  rw [e, made_row]

theorem copy_at {w : World} {l : List Int} {b off : Nat} (hc : ∀ i, i < l.length → w.cell? ⟨b, off + i, none⟩ = some (.int .i64 (li l i))) (j : Nat) (v : Value) (hj : (l.map (Value.int .i64))[j]? = some v) :
    w.cell? ((⟨b, off, none⟩ : Addr).add j) = some v := by
  rw [List.getElem?_map] at hj
  have hjl : j < l.length := by
    rcases Nat.lt_or_ge j l.length with h | h
    · exact h
    · rw [List.getElem?_eq_none h] at hj; cases hj
  have hv : v = .int .i64 (li l j) := by
    rw [List.getElem?_eq_getElem hjl] at hj
    unfold li; simp [List.getD, List.getElem?_eq_getElem hjl]
    simpa using hj.symm
  have ha : (⟨b, off, none⟩ : Addr).add j = ⟨b, off + j, none⟩ := by unfold Addr.add; split <;> simp_all
  rw [ha, hv]; exact hc j hjl
theorem splice_all {α : Type} (a b : List α) (h : a.length = b.length) : splice a 0 b = b := by
  unfold splice; simp [h]
def Own (w : World) (base : Nat) (v : Value) (l : List Int) : Prop := w.ownsRow base 3 1 v l.length (l.map (Value.int .i64))
theorem Own.empty (w : World) : Own (w.alloc (.cells #[] 3)) w.heap.size (.slice (some ⟨w.heap.size, 0, none⟩) 0 0) [] := by
  refine ⟨rfl, .inr ⟨w.heap.size, 0, #[], rfl, Nat.le_refl _, ?_, Nat.le_refl _, Nat.zero_le _, rfl, rfl⟩⟩
  exact heap_alloc_new w _
theorem Own.block {w : World} {base : Nat} {v : Value} {l : List Int} (h : Own w base v l) (k : Nat) (e : v.ownBlock = some k) : base ≤ k := by
  rcases h.2 with ⟨rfl, _⟩ | ⟨g, cap, cur, rfl, hg, _⟩
  · simp [Value.ownBlock] at e
  · simp [Value.ownBlock] at e; omega
theorem Own.form {w : World} {base : Nat} {v : Value} {l : List Int} (h : Own w base v l) : ∃ A c, v = .slice A l.length c ∧ RI w w.heap.size A l ∧ (A = none → c = 0) := by
  rcases h.2 with ⟨rfl, h0⟩ | ⟨g, cap, cur, rfl, hg, hh, hn, hc, hsz, htk⟩
  · have : l = [] := List.eq_nil_of_length_eq_zero h0
    subst this
    exact ⟨none, 0, rfl, RI.nil, fun _ => rfl⟩
  · refine ⟨_, cap, rfl, fun hp => ⟨g, 0, rfl, ?_, fun i hi => ?_⟩, fun e => by cases e⟩
    · rcases Nat.lt_or_ge g w.heap.size with hlt | hge
      · exact hlt
      · rw [Array.getElem?_eq_none hge] at hh; cases hh
    · rw [Nat.zero_add, cell_of_row w g i cur 3 (0, 0) hh]
      have h2 : (l.map (Value.int .i64))[i]? = some (.int .i64 (li l i)) := by unfold li; simp [hi]
      rw [← htk, List.getElem?_take] at h2
      split at h2
      · simpa using h2
      · cases h2
theorem Own.push {w : World} {base : Nat} {v : Value} {l : List Int} {b : Int} (h : w.ownsRow base 3 1 v (l.length + 1) (l.map (Value.int .i64) ++ [.int .i64 b])) : Own w base v (l ++ [b]) := by
  unfold Own; simpa using h
theorem Own.grow {w wr w1 : World} {v : Value} {l : List Int} {o : Obj} (hO : Own wr w.heap.size v l) (hb : Below w.heap.size w wr) (hg : (wr.alloc o).grownBy w1 v.ownBlock) : Below w.heap.size w w1 :=
  (hb.alloc hb.size _).grown hg (by have := hb.size; simp; omega) (fun k e => hO.block k e)
theorem max_ok {n : Nat} (h : n ≤ 1000000000000) : n + 1 ≤ maxLen := by unfold maxLen; omega
theorem Own.set {w : World} {base : Nat} {v : Value} {l : List Int} {i : Nat} (h : Own w base v l) (hi : i < l.length) (x : Int) :
    ∃ g c, v = .slice (some ⟨g, 0, none⟩) l.length c ∧ base ≤ g ∧ g < w.heap.size ∧ w.frozen? ⟨g, i, none⟩ = false ∧ Own (w.setCell ⟨g, i, none⟩ (.int .i64 x)) base v (l.set i x) := by
  rcases h.2 with ⟨rfl, h0⟩ | ⟨g, cap, cur, rfl, hg, hh, hn, hc, hsz, htk⟩
  · omega
  · have hlt : g < w.heap.size := by
      rcases Nat.lt_or_ge g w.heap.size with hlt | hge
      · exact hlt
      · rw [Array.getElem?_eq_none hge] at hh; cases hh
    have hB : Blk w g 3 cur := hh
    refine ⟨g, cap, rfl, hg, hlt, hB.frozen i, ?_⟩
    have hB2 := hB.set_ i (.int .i64 x)
    refine ⟨by simp, .inr ⟨g, cap, _, by simp, hg, hB2, by simpa using hn, hc, by simpa using hsz, ?_⟩⟩
    simp only [Array.toList_setIfInBounds, List.length_set]
    rw [List.take_set, htk, List.map_set]

theorem add_block (a : Addr) (n : Nat) : (a.add n).block = a.block := by unfold Addr.add; split <;> rfl
theorem RI.src {w : World} {B : Nat} {ad : Addr} {l : List Int} (h : RI w B (some ad) l) (j : Nat) (u : Value) (hj : (l.map (Value.int .i64))[j]? = some u) : w.cell? (ad.add j) = some u ∧ (ad.add j).block < B := by
  have hp : 0 < l.length := by
    rcases l with _ | ⟨x, l⟩
    · simp at hj
    · simp
  obtain ⟨b, off, e, hb, hc⟩ := h hp
  injection e with e
  subst e
  exact ⟨copy_at hc j u hj, by rw [add_block]; exact hb⟩
theorem RI.none_nil {w : World} {B : Nat} {l : List Int} (h : RI w B none l) : l = [] := by
  rcases l with _ | ⟨x, l⟩
  · rfl
  · obtain ⟨b, off, e, _⟩ := h (by simp); cases e
theorem growE {w w1 : World} {o : Obj} (hg : (w.alloc o).grownBy w1 (Value.slice (some ⟨w.heap.size, 0, none⟩) 0 0).ownBlock) : Below w.heap.size w w1 :=
  ((Below.refl _ _).alloc (Nat.le_refl _) _).grown hg (by simp) (fun k e => by simp [Value.ownBlock] at e; omega)
theorem below_put {w : World} {B g n : Nat} {m : List Int} (hg : B ≤ g) : Below B w (Sort.putRow (Value.int .i64) (Sort.ahead w n) g 0 m.toArray) := by
  refine ⟨rfl, rfl, rfl, ?_, fun k hk => ?_⟩
  · unfold Sort.putRow Sort.mapBlock; simp [Sort.ahead]
  · unfold Sort.putRow Sort.mapBlock
    simp only [Array.getElem?_modify]
    rw [if_neg (by omega)]
    rfl

theorem Own.keep {w w' : World} {base : Nat} {v : Value} {l : List Int} (h : Own w base v l) (hb : Below w.heap.size w w') : Own w' base v l := by
  obtain ⟨h1, h2⟩ := h
  refine ⟨h1, ?_⟩
  rcases h2 with h2 | ⟨g, cap, cur, e, hg, hh, r⟩
  · exact .inl h2
  · have hlt : g < w.heap.size := by
      rcases Nat.lt_or_ge g w.heap.size with q | q
      · exact q
      · rw [Array.getElem?_eq_none q] at hh; cases hh
    exact .inr ⟨g, cap, cur, e, hg, (hb.block g hlt).trans hh, r⟩

theorem Own.less {w : World} {base b2 : Nat} {v : Value} {l : List Int} (h : Own w base v l) (hb : b2 ≤ base) : Own w b2 v l := by
  obtain ⟨h1, h2⟩ := h
  refine ⟨h1, ?_⟩
  rcases h2 with h2 | ⟨g, cap, cur, e, hg, r⟩
  · exact .inl h2
  · exact .inr ⟨g, cap, cur, e, by omega, r⟩

theorem li_splice {L cs : List Int} {off : Nat} (h : off + cs.length ≤ L.length) (j : Nat) : li (splice L off cs) j = if j < off then li L j else if j < off + cs.length then li cs (j - off) else li L j := by
  unfold li splice
  simp only [List.getD, List.getElem?_append, List.getElem?_drop, List.length_take, List.getElem?_take]
  have e : min off L.length = off := by omega
  rw [e]
  by_cases a : j < off
  · simp [a]
  · by_cases b : j < off + cs.length
    · rw [if_neg a, if_pos (by omega), if_neg a, if_pos b]
    · rw [if_neg a, if_neg (by omega), if_neg a, if_neg b]
      congr 2; omega
theorem splice_map (L cs : List Int) (off : Nat) : splice (L.map (Value.int .i64)) off (cs.map (Value.int .i64)) = (splice L off cs).map (Value.int .i64) := by
  unfold splice; simp [List.map_take, List.map_drop]
theorem li_part {l : List Int} {a n j : Nat} (h : j < n) : li ((l.drop a).take n) j = li l (a + j) := by
  unfold li; simp [List.getD, h]
theorem li_get {l : List Int} {k : Nat} (h : k < l.length) : li l k = l[k] := by unfold li; simp [List.getD, List.getElem?_eq_getElem h]
theorem add_off (b off j : Nat) : (⟨b, off, none⟩ : Addr).add j = ⟨b, off + j, none⟩ := by unfold Addr.add; split <;> simp_all
theorem below_drew1 {B : Nat} {w w1 : World} (h : Below B w w1) : Below B w w1.drew := h.drew
theorem li_app {a z : List Int} {j : Nat} (h : j < a.length) : li (a ++ z) j = li a j := by
  unfold li; simp [List.getD, List.getElem?_append, h]
theorem holds_pre {w : World} {g : Nat} {l z : List Int} (h : Blk w g 3 (intRow (l ++ z))) : Sort.Holds (Value.int .i64) w g 0 l.toArray := fun j hj => by
  have hj' : j < l.length := by simpa using hj
  refine ⟨?_, by rw [Nat.zero_add]; exact h.frozen j⟩
  rw [Nat.zero_add, h.cell, intRow_at (by rw [List.length_append]; omega), li_app hj']
  unfold li
  have e : l.toArray[j]! = l[j] := by simp [hj']
  rw [e]
  simp [List.getD, List.getElem?_eq_getElem hj']
theorem blk_put_pre {w : World} {g n : Nat} {l m z : List Int} (h : Blk w g 3 (intRow (l ++ z))) (hl : m.length = l.length) : Blk (Sort.putRow (Value.int .i64) (Sort.ahead w n) g 0 m.toArray) g 3 (intRow (m ++ z)) := by
  have h1 : (Sort.ahead w n).heap[g]? = some (.cells (intRow (l ++ z)) 3 (0, 0)) := h
  have h2 : (Sort.putRow (Value.int .i64) (Sort.ahead w n) g 0 m.toArray).heap[g]? = some (.cells (Sort.putCells (Value.int .i64) 0 m.toArray (intRow (l ++ z))) 3 (0, 0)) := by
    unfold Sort.putRow Sort.mapBlock
    simp only [Array.getElem?_modify, if_true, h1, Option.map_some]
    rfl
  have h3 : Sort.putCells (Value.int .i64) 0 m.toArray (intRow (l ++ z)) = intRow (m ++ z) := by
    apply Array.ext_getElem?
    intro i
    have s1 : (intRow (m ++ z)).size = m.length + z.length := by unfold intRow; simp
    have s2 : (Sort.putCells (Value.int .i64) 0 m.toArray (intRow (l ++ z))).size = l.length + z.length := by unfold Sort.putCells intRow; simp
    by_cases hi : i < m.length + z.length
    · rw [intRow_at (by rw [List.length_append]; omega)]
      unfold Sort.putCells
      rw [Array.getElem?_mapIdx, intRow_at (by rw [List.length_append]; omega)]
      by_cases hm : i < m.length
      · rw [li_app hm]
        have e : m.toArray[i]! = li m i := by unfold li; simp [hm, List.getD]
        simp [hm]
        unfold li; simp [List.getD, hm]
      · have e : li (m ++ z) i = li (l ++ z) i := by unfold li; simp [List.getD, List.getElem?_append, show ¬ i < l.length by omega, hl]
        simp [hm, e]
    · rw [Array.getElem?_eq_none (by omega), Array.getElem?_eq_none (by omega)]
  unfold Blk
  rw [h2, h3]
theorem put_size {w : World} {g n : Nat} {m : List Int} : (Sort.putRow (Value.int .i64) (Sort.ahead w n) g 0 m.toArray).heap.size = w.heap.size := by
  unfold Sort.putRow Sort.mapBlock; simp [Sort.ahead]
theorem Own.put {w : World} {B g n : Nat} {m : List Int} {v : Value} {l : List Int} (h : Own w B v l) (hg : g < B) : Own (Sort.putRow (Value.int .i64) (Sort.ahead w n) g 0 m.toArray) B v l := by
  obtain ⟨h1, h2⟩ := h
  refine ⟨h1, ?_⟩
  rcases h2 with h2 | ⟨g2, cap, cur, e, hg2, hh, r⟩
  · exact .inl h2
  · refine .inr ⟨g2, cap, cur, e, hg2, ?_, r⟩
    unfold Sort.putRow Sort.mapBlock
    simp only [Array.getElem?_modify]
    rw [if_neg (by omega)]
    exact hh
theorem Own.grow2 {w wr w1 : World} {B : Nat} {v : Value} {l : List Int} {o : Obj} (hO : Own wr B v l) (hb : Below B w wr) (hB : B ≤ wr.heap.size) (hg : (wr.alloc o).grownBy w1 v.ownBlock) : Below B w w1 :=
  (hb.alloc hB _).grown hg (by simp; omega) (fun k e => hO.block k e)
theorem Own.grow3 {w wr w1 : World} {B0 B : Nat} {v : Value} {l : List Int} {o : Obj} (hO : Own wr B v l) (hb : Below B0 w wr) (h0 : B0 ≤ B) (hB : B ≤ wr.heap.size) (hg : (wr.alloc o).grownBy w1 v.ownBlock) : Below B0 w w1 :=
  (hb.alloc (by omega) _).grown hg (by simp; omega) (fun k e => Nat.le_trans h0 (hO.block k e))

theorem Own.other {w w1 : World} {B2 : Nat} {v2 : Value} {l2 : List Int} {row : Option Nat} (h : Own w B2 v2 l2) (hr : ∀ k, row = some k → k < B2) (hg : w.grownBy w1 row) : Own w1 B2 v2 l2 := by
  obtain ⟨h1, h2⟩ := h
  refine ⟨h1, ?_⟩
  rcases h2 with h2 | ⟨g2, cap, cur, e, hg2, hh, r⟩
  · exact .inl h2
  · have hlt : g2 < w.heap.size := by
      rcases Nat.lt_or_ge g2 w.heap.size with q | q
      · exact q
      · rw [Array.getElem?_eq_none q] at hh; cases hh
    exact .inr ⟨g2, cap, cur, e, hg2, (hg.block g2 hlt (fun e2 => by have := hr g2 e2.symm; omega)).trans hh, r⟩
theorem Own.alloc1 {w : World} {B : Nat} {v : Value} {l : List Int} (h : Own w B v l) (o : Obj) : Own (w.alloc o) B v l := World.ownsRow.alloc h o
theorem Own.lt {w : World} {B : Nat} {v : Value} {l : List Int} (h : Own w B v l) (k : Nat) (e : v.ownBlock = some k) : k < w.heap.size := by
  rcases h.2 with ⟨rfl, _⟩ | ⟨g, cap, cur, rfl, hg, hh, _⟩
  · simp [Value.ownBlock] at e
  · simp [Value.ownBlock] at e
    subst e
    rcases Nat.lt_or_ge g w.heap.size with q | q
    · exact q
    · rw [Array.getElem?_eq_none q] at hh; cases hh

theorem quiet_left {P : Program} {f : FuncId} {args : Array Value} {w : World} {n : Nat} {v : Value}
    (h : Calls P f args (w.drewN n) fun e w' => e = .returned v ∧ w.drewN n = w') : Calls P f args (w.drewN n) fun e w'' => e = .returned v ∧ ∃ m, w'' = w.drewN m :=
  h.mono fun _ _ ⟨he, hm⟩ => ⟨he, n, hm.symm⟩
theorem Blk.lit (w : World) (l : List Int) (cs : Array Value) (e : cs = intRow l) : Blk (w.alloc (.cells cs 3)) w.heap.size 3 (intRow l) := by rw [← e]; exact Blk.new w 3 cs
def Gives (w : World) (l : List Int) (e : Ending) (w' : World) : Prop := ∃ A c, e = .returned (.slice A l.length c) ∧ RI w' w'.heap.size A l ∧ (A = none → c = 0) ∧ Below w.heap.size w w'
theorem gives_own {w w' : World} {l : List Int} {v : Value} {e : Ending} (he : e = .returned v) (hO : Own w' w.heap.size v l) (hb : Below w.heap.size w w') : Gives w l e w' := by
  obtain ⟨A, c, rfl, hR, hA⟩ := hO.form
  exact ⟨A, c, he, hR, hA, hb⟩
theorem gives_blk {w w' : World} {l : List Int} {g n c : Nat} {e : Ending} (hn : n = l.length) (he : e = .returned (.slice (some ⟨g, 0, none⟩) n c)) (h : Blk w' g 3 (intRow l)) (hb : Below w.heap.size w w') : Gives w l e w' := by
  subst hn
  exact ⟨_, c, he, RI.blk h h.lt, (fun e => by cases e), hb⟩
theorem RI.drewN {w : World} {A : Option Addr} {l : List Int} (h : RI w w.heap.size A l) (n : Nat) : RI (w.drewN n) (w.drewN n).heap.size A l := h
theorem below_drewN_l {w w1 : World} {n : Nat} (h : Below (w.drewN n).heap.size (w.drewN n) w1) : Below w.heap.size w w1 := (below_drewN (Below.refl w.heap.size w) n).trans h

end Go.Proofs.Ytnjkphopklbogaa
namespace Go.Proofs.Ytnjkphopklbogaa
open Go.Lib

abbrev Bs := List UInt8
def IncK (l : List Bs) : Prop := l.Pairwise (· < ·)
theorem incK_unique : ∀ {a b : List Bs}, IncK a → IncK b → (∀ x, x ∈ a ↔ x ∈ b) → a = b
  | [], [], _, _, _ => rfl
  | [], y :: b, _, _, h => absurd ((h y).2 (by simp)) (by simp)
  | x :: a, [], _, _, h => absurd ((h x).1 (by simp)) (by simp)
  | x :: a, y :: b, ha, hb, h => by
    unfold IncK at ha hb
    rw [List.pairwise_cons] at ha hb
    have hxy : x = y := by
      have h1 := (h x).1 (by simp)
      have h2 := (h y).2 (by simp)
      rw [List.mem_cons] at h1 h2
      rcases h1 with e | h1
      · exact e
      · rcases h2 with e | h2
        · exact e.symm
        · exact absurd (List.lt_trans (hb.1 x h1) (ha.1 y h2)) (List.lt_irrefl _)
    subst hxy
    rw [incK_unique (a := a) (b := b) ha.2 hb.2 (fun z => ?_)]
    constructor
    · intro hz
      have h1 := (h z).1 (by simp [hz])
      rw [List.mem_cons] at h1
      rcases h1 with e | h1
      · have := ha.1 z hz; rw [e] at this; exact absurd this (List.lt_irrefl _)
      · exact h1
    · intro hz
      have h1 := (h z).2 (by simp [hz])
      rw [List.mem_cons] at h1
      rcases h1 with e | h1
      · have := hb.1 z hz; rw [e] at this; exact absurd this (List.lt_irrefl _)
      · exact h1
theorem compactK_step (d : Array Bs) (hs : ∀ i j, i ≤ j → j < d.size → d[i]! ≤ d[j]!) : ∀ m, m ≤ d.size →
    IncK (compactUpTo d m) ∧ (∀ x, x ∈ compactUpTo d m ↔ ∃ j, j < m ∧ d[j]! = x)
  | 0, _ => by
    have e : compactUpTo d 0 = [] := rfl
    rw [e]
    exact ⟨List.Pairwise.nil, fun x => by simp⟩
  | m + 1, hm => by
    obtain ⟨ih1, ih2⟩ := compactK_step d hs m (by omega)
    rw [compactUpTo_succ]
    cases hk : keeps d m
    · have hm0 : m ≠ 0 ∧ d[m]! = d[m - 1]! := by
        unfold keeps at hk
        simpa using hk
      simp only [Bool.false_eq_true, if_false, List.append_nil]
      refine ⟨ih1, fun x => ?_⟩
      rw [ih2]
      constructor
      · rintro ⟨j, h1, h2⟩; exact ⟨j, by omega, h2⟩
      · rintro ⟨j, h1, h2⟩
        by_cases e : j = m
        · subst e; exact ⟨j - 1, by omega, by rw [← hm0.2]; exact h2⟩
        · exact ⟨j, by omega, h2⟩
    · rw [if_pos rfl]
      have hlt : ∀ x ∈ compactUpTo d m, x < d[m]! := fun x hx => by
        obtain ⟨j, h1, h2⟩ := (ih2 x).1 hx
        have h3 := hs j (m - 1) (by omega) (by omega)
        have h4 := hs (m - 1) m (by omega) (by omega)
        have h5 : d[m - 1]! ≠ d[m]! := by
          unfold keeps at hk
          have h6 : m = 0 ∨ d[m]! ≠ d[m - 1]! := by simpa using hk
          rcases h6 with h6 | h6
          · omega
          · exact fun e => h6 e.symm
        have h7 : d[m - 1]! < d[m]! := by
          rcases Decidable.em (d[m - 1]! < d[m]!) with h | h
          · exact h
          · exact absurd (List.le_antisymm h4 (List.not_lt.1 h)) h5
        rw [← h2]
        exact List.lt_of_le_of_lt h3 h7
      refine ⟨?_, fun x => ?_⟩
      · unfold IncK
        rw [List.pairwise_append]
        exact ⟨ih1, by simp, fun a ha b hb => by rw [List.mem_singleton] at hb; rw [hb]; exact hlt a ha⟩
      · rw [List.mem_append, ih2, List.mem_singleton]
        constructor
        · rintro (⟨j, h1, h2⟩ | e)
          · exact ⟨j, by omega, h2⟩
          · exact ⟨m, by omega, e.symm⟩
        · rintro ⟨j, h1, h2⟩
          by_cases e : j = m
          · subst e; exact .inr h2.symm
          · exact .inl ⟨j, by omega, h2⟩
/-- The elements of l in increasing order without duplicates. -/
def srtK (l : List Bs) : List Bs := l.mergeSort fun x y => decide (x ≤ y)
def setK (l : List Bs) : List Bs := compact (srtK l)
theorem srtK_len (l : List Bs) : (srtK l).length = l.length := by unfold srtK; simp
theorem setK_both (l : List Bs) : IncK (setK l) ∧ ∀ x, x ∈ setK l ↔ x ∈ l := by
  have hp : (srtK l).Pairwise (fun x y => decide (x ≤ y) = true) := by
    unfold srtK
    exact List.pairwise_mergeSort (fun a b c h1 h2 => by simp only [decide_eq_true_eq] at *; exact List.le_trans h1 h2) (fun a b => by simp only [Bool.or_eq_true, decide_eq_true_eq]; exact List.le_total a b) l
  have hs : ∀ i j, i ≤ j → j < (srtK l).toArray.size → (srtK l).toArray[i]! ≤ (srtK l).toArray[j]! := fun i j hij hj => by
    have hj' : j < (srtK l).length := by simpa using hj
    rcases Nat.lt_or_ge i j with q | q
    · have := (List.pairwise_iff_getElem.1 hp) i j (by omega) hj' q
      have e1 : (srtK l).toArray[i]! = (srtK l)[i] := by simp [show i < (srtK l).length by omega]
      have e2 : (srtK l).toArray[j]! = (srtK l)[j] := by simp [hj']
      rw [e1, e2]
      exact of_decide_eq_true this
    · have : i = j := by omega
      subst this; exact List.le_refl _
  have h := compactK_step (srtK l).toArray hs (srtK l).length (by simp)
  refine ⟨h.1, fun x => ?_⟩
  have h2 := h.2 x
  show x ∈ compactUpTo (srtK l).toArray (srtK l).length ↔ _
  rw [h2]
  have h3 : x ∈ srtK l ↔ x ∈ l := by unfold srtK; exact List.mem_mergeSort
  rw [← h3, List.mem_iff_getElem]
  constructor
  · rintro ⟨j, hj, e⟩
    refine ⟨j, hj, ?_⟩
    simpa [hj] using e
  · rintro ⟨j, hj, e⟩
    refine ⟨j, hj, ?_⟩
    simpa [hj] using e
theorem setK_inc (l : List Bs) : IncK (setK l) := (setK_both l).1
theorem setK_mem (l : List Bs) (x : Bs) : x ∈ setK l ↔ x ∈ l := (setK_both l).2 x
theorem setK_eq {a l : List Bs} (ha : IncK a) (h : ∀ x, x ∈ a ↔ x ∈ l) : a = setK l := incK_unique ha (setK_inc l) (fun x => by rw [h, setK_mem])
theorem compactK_le (l : List Bs) : (compact l).length ≤ l.length := by
  unfold compact compactUpTo
  rw [List.length_map]
  exact Nat.le_trans (List.length_filter_le _ _) (by simp)
theorem setK_le (l : List Bs) : (setK l).length ≤ l.length := by
  have := compactK_le (srtK l)
  rw [srtK_len] at this
  exact this
theorem setK_nil : setK [] = [] := List.eq_nil_of_length_eq_zero (by have := setK_le []; simpa using this)
/-- The specification's insertion. -/
def insK (s : Bs) : List Bs → List Bs
  | [] => [s]
  | x :: r => if s < x then s :: x :: r else x :: insK s r
def withK (l : List Bs) (s : Bs) : List Bs := if s ∈ l then l else insK s l
theorem insK_mem (s y : Bs) : ∀ l, y ∈ insK s l ↔ y = s ∨ y ∈ l
  | [] => by simp [insK]
  | x :: r => by
    unfold insK
    split
    · simp
    · simp only [List.mem_cons, insK_mem s y r]
      constructor
      · rintro (h | h | h)
        · exact .inr (.inl h)
        · exact .inl h
        · exact .inr (.inr h)
      · rintro (h | h | h)
        · exact .inr (.inl h)
        · exact .inl h
        · exact .inr (.inr h)
theorem insK_inc (s : Bs) : ∀ {l}, IncK l → s ∉ l → IncK (insK s l)
  | [], _, _ => List.pairwise_singleton _ _
  | x :: r, h, hn => by
    have h2 := h
    unfold IncK at h2
    rw [List.pairwise_cons] at h2
    unfold insK
    split
    · rename_i g
      unfold IncK
      rw [List.pairwise_cons]
      refine ⟨fun a ha => ?_, h⟩
      rcases List.mem_cons.1 ha with rfl | ha
      · exact g
      · exact List.lt_trans g (h2.1 a ha)
    · rename_i g
      have hsx : x < s := by
        rcases Decidable.em (x < s) with e | e
        · exact e
        · exact absurd (List.le_antisymm (List.not_lt.1 e) (List.not_lt.1 g)) (fun e2 => hn (by rw [e2]; simp))
      unfold IncK
      rw [List.pairwise_cons]
      refine ⟨fun a ha => ?_, insK_inc s (l := r) h2.2 (fun e => hn (by simp [e]))⟩
      rcases (insK_mem s a r).1 ha with rfl | ha
      · exact hsx
      · exact h2.1 a ha
theorem withK_inc {l : List Bs} (h : IncK l) (s : Bs) : IncK (withK l s) := by
  unfold withK
  split
  · exact h
  · rename_i g; exact insK_inc s h g
theorem withK_mem (l : List Bs) (s y : Bs) : y ∈ withK l s ↔ y ∈ l ∨ y = s := by
  unfold withK
  split
  · rename_i g
    constructor
    · exact .inl
    · rintro (h | rfl)
      · exact h
      · exact g
  · rw [insK_mem]
    exact Or.comm
theorem foldK : ∀ (L l : List Bs), IncK l → IncK (L.foldl withK l) ∧ ∀ y, y ∈ L.foldl withK l ↔ y ∈ l ∨ y ∈ L
  | [], l, h => ⟨h, fun y => by simp⟩
  | s :: L, l, h => by
    obtain ⟨h1, h2⟩ := foldK L (withK l s) (withK_inc h s)
    refine ⟨h1, fun y => ?_⟩
    show y ∈ L.foldl withK (withK l s) ↔ _
    rw [h2, withK_mem, List.mem_cons]
    exact or_assoc
theorem foldK_set (L : List Bs) : L.foldl withK [] = setK L := setK_eq (foldK L [] List.Pairwise.nil).1 (fun y => by rw [(foldK L [] List.Pairwise.nil).2 y]; simp)

def key (m : ByteArray) : Bs := m.data.toList
def bs (l : Bs) : ByteArray := ⟨l.toArray⟩
theorem bs_key (m : ByteArray) : bs (key m) = m := rfl
theorem key_bs (l : Bs) : key (bs l) = l := rfl
-- The names of the nodes of one operator, node by node.
mutual
def occ (o : Int) : Ex → List Bs | .mk p _ m ks => (if p = o then [key m] else []) ++ occL o ks
def occL (o : Int) : List Ex → List Bs
  | [] => []
  | t :: r => occ o t ++ occL o r
end
theorem occ_eq (o : Int) (t : Ex) : occ o t = (if t.op = o then [key t.nm] else []) ++ occL o t.ks := by cases t; rfl
mutual
theorem occ_le (o : Int) : ∀ t : Ex, (occ o t).length ≤ t.sz
  | .mk p v m ks => by
    have := occL_le o ks
    show ((if p = o then [key m] else []) ++ occL o ks).length ≤ 1 + szL ks
    rw [List.length_append]
    split <;> simp <;> omega
theorem occL_le (o : Int) : ∀ l : List Ex, (occL o l).length ≤ szL l
  | [] => Nat.le_refl _
  | t :: r => by
    have := occ_le o t
    have := occL_le o r
    show (occ o t ++ occL o r).length ≤ t.sz + szL r
    rw [List.length_append]
    omega
end
end Go.Proofs.Ytnjkphopklbogaa
