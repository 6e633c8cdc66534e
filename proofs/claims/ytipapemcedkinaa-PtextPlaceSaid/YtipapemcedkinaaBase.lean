/- Expressions as trees; how a tree lies in memory; layer 7 (ptext). -/
import Derived.Test.YtipapemcedkinaaRows
import Derived.WalkKit
import Derived.ProofKit
import Derived.OpenShut
import Derived.Handy
import Derived.Lib.Hide
import Derived.WalkLawsBesides
import Derived.PlainAid
import Derived.Laws.OwnMore
import Derived.Deep.Draws
import Derived.Laws.Rows
import Derived.Deep.QuietTactic
import Derived.BigQuiet
import Derived.Laws.CopyOwn
import Derived.Maps.AppendAt
import Derived.Deep.AppendLies
import Derived.OwnWalk
import Derived.Laws.AppendOwnNone
import Derived.Deep.LoopGhost
import Derived.Deep.Cut
import Derived.StillTailTactics
import Derived.IntWalk
namespace Go.Proofs.Ytipapemcedkinaa
open Go.RowKit

/-- An expression: its operator, its variable, its Kids. -/
inductive Ex where
  | mk (op v : Int) (ks : List Ex)
def Ex.op : Ex → Int | .mk o _ _ => o
def Ex.vr : Ex → Int | .mk _ v _ => v
def Ex.ks : Ex → List Ex | .mk _ _ k => k
def ex0 : Ex := .mk 0 0 []
mutual
def Ex.sz : Ex → Nat | .mk _ _ ks => 1 + szL ks
def szL : List Ex → Nat
  | [] => 0
  | t :: r => t.sz + szL r
end
theorem sz_eq (t : Ex) : t.sz = 1 + szL t.ks := by cases t; rfl
theorem szL_mem : ∀ {l : List Ex} {t : Ex}, t ∈ l → t.sz ≤ szL l
  | a :: r, t, h => by
    rw [szL]
    rcases List.mem_cons.1 h with rfl | h
    · omega
    · have := szL_mem h; omega
theorem szL_len : ∀ l : List Ex, l.length ≤ szL l
  | [] => Nat.le_refl _
  | a :: r => by
    rw [szL, List.length_cons]
    have := szL_len r
    have := sz_eq a
    omega
/-- The i-th of the Kids. -/
def kd (l : List Ex) (i : Nat) : Ex := l.getD i ex0
theorem kd_mem {l : List Ex} {i : Nat} (h : i < l.length) : kd l i ∈ l := by unfold kd; simp [List.getD, List.getElem?_eq_getElem h]
theorem kd_cons (t : Ex) (r : List Ex) (i : Nat) : kd (t :: r) (i + 1) = kd r i := rfl
theorem kd_drop {l : List Ex} {i : Nat} (h : i < l.length) : l.drop i = kd l i :: l.drop (i + 1) := by
  rw [List.drop_eq_getElem_cons h]; unfold kd; simp [List.getD, List.getElem?_eq_getElem h]
theorem kd_sz {t : Ex} {i : Nat} (h : i < t.ks.length) : (kd t.ks i).sz < t.sz := by
  have := szL_mem (kd_mem h)
  have := sz_eq t
  omega
/-- An expression by value, its Kids at A. -/
abbrev exV (t : Ex) (A : Option Addr) (c : Nat) : Value := .agg #[.int .i64 t.op, .int .i64 t.vr, .slice A t.ks.length c]
abbrev exC (t : Ex) (A : Option Addr) (c : Nat) : Array Value := #[.int .i64 t.op, .int .i64 t.vr, .slice A t.ks.length c]
/-- The Kids of the tree lie at A, and theirs where they say, all below block B. -/
inductive Rep (B : Nat) (w : World) : Option Addr → Ex → Prop where
  | mk (A : Option Addr) (t : Ex) (ka : Nat → Option Addr) (kc : Nat → Nat)
      (hrow : 0 < t.ks.length → ∃ b f, A = some ⟨b, f, none⟩ ∧ b < B ∧ ∀ i, i < t.ks.length → w.cell? ⟨b, f + i * 3, none⟩ = some (.int .i64 (kd t.ks i).op) ∧ w.cell? ⟨b, f + i * 3 + 1, none⟩ = some (.int .i64 (kd t.ks i).vr) ∧ w.cell? ⟨b, f + i * 3 + 2, none⟩ = some (.slice (ka i) (kd t.ks i).ks.length (kc i)))
      (hkid : ∀ i, i < t.ks.length → Rep B w (ka i) (kd t.ks i)) : Rep B w A t
theorem Rep.out {B : Nat} {w : World} {A : Option Addr} {t : Ex} (h : Rep B w A t) (hp : 0 < t.ks.length) : ∃ b f, A = some ⟨b, f, none⟩ ∧ b < B ∧ ∀ i, i < t.ks.length → ∃ ka kc,
    w.cell? ⟨b, f + i * 3, none⟩ = some (.int .i64 (kd t.ks i).op) ∧ w.cell? ⟨b, f + i * 3 + 1, none⟩ = some (.int .i64 (kd t.ks i).vr) ∧ w.cell? ⟨b, f + i * 3 + 2, none⟩ = some (.slice ka (kd t.ks i).ks.length kc) ∧ Rep B w ka (kd t.ks i) := by
  cases h with
  | mk _ _ ka kc hrow hkid =>
    obtain ⟨b, f, e, hb, hc⟩ := hrow hp
    exact ⟨b, f, e, hb, fun i hi => ⟨ka i, kc i, (hc i hi).1, (hc i hi).2.1, (hc i hi).2.2, hkid i hi⟩⟩
theorem Rep.leaf {B : Nat} {w : World} {A : Option Addr} {t : Ex} (h : t.ks = []) : Rep B w A t :=
  .mk A t (fun _ => none) (fun _ => 0) (fun hp => by rw [h] at hp; exact absurd hp (by simp)) (fun i hi => by rw [h] at hi; exact absurd hi (by simp))
theorem Rep.under {B : Nat} {w w' : World} {A : Option Addr} {t : Ex} (h : Rep B w A t) (hb : Below B w w') : Rep B w' A t := by
  induction h with
  | mk A t ka kc hrow hkid ih =>
    refine .mk A t ka kc (fun hp => ?_) ih
    obtain ⟨b, f, e, hB, hc⟩ := hrow hp
    exact ⟨b, f, e, hB, fun i hi => ⟨(hb.cell (p := ⟨b, f + i * 3, none⟩) hB).trans (hc i hi).1, (hb.cell (p := ⟨b, f + i * 3 + 1, none⟩) hB).trans (hc i hi).2.1, (hb.cell (p := ⟨b, f + i * 3 + 2, none⟩) hB).trans (hc i hi).2.2⟩⟩
theorem Rep.more {B B' : Nat} {w : World} {A : Option Addr} {t : Ex} (h : Rep B w A t) (hB : B ≤ B') : Rep B' w A t := by
  induction h with
  | mk A t ka kc hrow hkid ih =>
    refine .mk A t ka kc (fun hp => ?_) ih
    obtain ⟨b, f, e, hb, hc⟩ := hrow hp
    exact ⟨b, f, e, by omega, hc⟩
theorem Rep.step {w w' : World} {A : Option Addr} {t : Ex} (h : Rep w.heap.size w A t) (hb : Below w.heap.size w w') : Rep w'.heap.size w' A t := (h.under hb).more hb.size
/-- A tree built of Kids that lie: the row of the Kids at ⟨b, f⟩. -/
theorem Rep.node {B : Nat} {w : World} {b f : Nat} {t : Ex} (hb : b < B) (hk : ∀ i, i < t.ks.length → ∃ ka kc, w.cell? ⟨b, f + i * 3, none⟩ = some (.int .i64 (kd t.ks i).op) ∧ w.cell? ⟨b, f + i * 3 + 1, none⟩ = some (.int .i64 (kd t.ks i).vr) ∧ w.cell? ⟨b, f + i * 3 + 2, none⟩ = some (.slice ka (kd t.ks i).ks.length kc) ∧ Rep B w ka (kd t.ks i)) : Rep B w (some ⟨b, f, none⟩) t := by
  have hx : ∀ i, ∃ p : Option Addr × Nat, i < t.ks.length → w.cell? ⟨b, f + i * 3, none⟩ = some (.int .i64 (kd t.ks i).op) ∧ w.cell? ⟨b, f + i * 3 + 1, none⟩ = some (.int .i64 (kd t.ks i).vr) ∧ w.cell? ⟨b, f + i * 3 + 2, none⟩ = some (.slice p.1 (kd t.ks i).ks.length p.2) ∧ Rep B w p.1 (kd t.ks i) := fun i => by
    by_cases hi : i < t.ks.length
    · obtain ⟨ka, kc, h⟩ := hk i hi
      exact ⟨(ka, kc), fun _ => h⟩
    · exact ⟨(none, 0), fun h => absurd h hi⟩
  exact .mk _ t (fun i => (hx i).choose.1) (fun i => (hx i).choose.2) (fun _ => ⟨b, f, rfl, hb, fun i hi => ⟨((hx i).choose_spec hi).1, ((hx i).choose_spec hi).2.1, ((hx i).choose_spec hi).2.2.1⟩⟩) (fun i hi => ((hx i).choose_spec hi).2.2.2)
def Blk (w : World) (g : Nat) (t : TypeId) (cs : Array Value) : Prop := w.heap[g]? = some (.cells cs t (0, 0))
section
variable {w w' : World} {g B : Nat} {t : TypeId} {cs : Array Value}
theorem Blk.new (w : World) (t : TypeId) (cs : Array Value) : Blk (w.alloc (.cells cs t)) w.heap.size t cs := heap_alloc_new w _
theorem Blk.lt (h : Blk w g t cs) : g < w.heap.size := by
  rcases Nat.lt_or_ge g w.heap.size with hlt | hge
  · exact hlt
  · unfold Blk at h; rw [Array.getElem?_eq_none hge] at h; cases h
theorem Blk.cell (h : Blk w g t cs) (j : Nat) : w.cell? ⟨g, j, none⟩ = cs[j]? := cell_of_row w g j cs t (0, 0) h
theorem Blk.frozen (h : Blk w g t cs) (i : Nat) : w.frozen? ⟨g, i, none⟩ = false := by
  unfold Blk at h
  simp [World.frozen?, h]
theorem Blk.drewN (h : Blk w g t cs) (n : Nat) : Blk (w.drewN n) g t cs := h
theorem Blk.set_ (h : Blk w g t cs) (i : Nat) (u : Value) : Blk (w.setCell ⟨g, i, none⟩ u) g t (cs.setIfInBounds i u) := by
  unfold Blk at h ⊢
  simp [World.setCell, Array.getElem?_modify, h]
theorem Blk.set_other (h : Blk w g t cs) {b : Nat} (hb : b ≠ g) (i : Nat) (u : Value) : Blk (w.setCell ⟨b, i, none⟩ u) g t cs := by
  unfold Blk at h ⊢
  simp [World.setCell, Array.getElem?_modify, h, hb]
theorem Blk.below {B : Nat} (h : Blk w g t cs) (hb : Below B w w') (hg : g < B) : Blk w' g t cs := (hb.block g hg).trans h
end
theorem Blk.alloc {w : World} {g : Nat} {t : TypeId} {cs : Array Value} (h : Blk w g t cs) (o : Obj) : Blk (w.alloc o) g t cs := h.below ((Below.refl _ _).alloc (Nat.le_refl _) _) h.lt
/-- Of what lies in blocks outside S nothing has turned. -/
structure Frm (S : Nat → Prop) (w w' : World) : Prop where
  os : w'.os = w.os
  tape : w'.tape = w.tape
  output : w'.output = w.output
  size : w.heap.size ≤ w'.heap.size
  block : ∀ k, k < w.heap.size → ¬ S k → w'.heap[k]? = w.heap[k]?
theorem Frm.refl (S : Nat → Prop) (w : World) : Frm S w w := ⟨rfl, rfl, rfl, Nat.le_refl _, fun _ _ _ => rfl⟩
theorem Frm.trans {S : Nat → Prop} {a b c : World} (h : Frm S a b) (h2 : Frm S b c) : Frm S a c :=
  ⟨h2.os.trans h.os, h2.tape.trans h.tape, h2.output.trans h.output, Nat.le_trans h.size h2.size, fun k hk hs => (h2.block k (Nat.lt_of_lt_of_le hk h.size) hs).trans (h.block k hk hs)⟩
theorem Frm.mono {S S' : Nat → Prop} {a b : World} (h : Frm S a b) (hs : ∀ k, S k → S' k) : Frm S' a b := ⟨h.os, h.tape, h.output, h.size, fun k hk hn => h.block k hk (fun x => hn (hs k x))⟩
theorem Frm.of_below {S : Nat → Prop} {a b : World} (h : Below a.heap.size a b) : Frm S a b := ⟨h.os, h.tape, h.output, h.size, fun k hk _ => h.block k hk⟩
theorem Frm.below2 {S : Nat → Prop} {B : Nat} {a b : World} (h : Frm S a b) (hS : ∀ k, k < B → ¬ S k) (hB : B ≤ a.heap.size) : Below B a b := ⟨h.os, h.tape, h.output, h.size, fun k hk => h.block k (by omega) (hS k hk)⟩
theorem Frm.set {S : Nat → Prop} {a b : World} (h : Frm S a b) {g : Nat} (hg : S g) (i : Nat) (v : Value) : Frm S a (b.setCell ⟨g, i, none⟩ v) :=
  h.trans ⟨rfl, rfl, rfl, by simp, fun k _ hs => by
    have : g ≠ k := fun e => hs (e ▸ hg)
    simp [World.setCell, Array.getElem?_modify, this]⟩
theorem Frm.alloc {S : Nat → Prop} {a b : World} (h : Frm S a b) (o : Obj) : Frm S a (b.alloc o) := h.trans (Frm.of_below ((Below.refl _ _).alloc (Nat.le_refl _) _))
theorem Frm.drewN {S : Nat → Prop} {a b : World} (h : Frm S a b) (n : Nat) : Frm S a (b.drewN n) := h.trans (Frm.of_below (below_drewN (Below.refl _ _) n))
theorem Blk.frm {S : Nat → Prop} {w w' : World} {g : Nat} {t : TypeId} {cs : Array Value} (h : Blk w g t cs) (hf : Frm S w w') (hs : ¬ S g) : Blk w' g t cs := (hf.block g h.lt hs).trans h
theorem bcell {W w1 : World} {B : Nat} (hb : Below B W w1) : (∀ b o, b < B → w1.cell? ⟨b, o, none⟩ = W.cell? ⟨b, o, none⟩) ∧ (∀ b o, b < B → w1.frozen? ⟨b, o, none⟩ = W.frozen? ⟨b, o, none⟩) :=
  ⟨fun b o h => hb.cell (p := ⟨b, o, none⟩) h, fun b o h => hb.frozen (p := ⟨b, o, none⟩) h⟩
theorem bt {w w1 w2 : World} (h : Below w.heap.size w w1) (h2 : Below w1.heap.size w1 w2) : Below w.heap.size w w2 := h.trans (h2.mono h.size)
theorem al {w w1 : World} (h : Below w.heap.size w w1) (o : Obj) : Below w.heap.size w (w1.alloc o) := h.alloc h.size o
end Go.Proofs.Ytipapemcedkinaa
