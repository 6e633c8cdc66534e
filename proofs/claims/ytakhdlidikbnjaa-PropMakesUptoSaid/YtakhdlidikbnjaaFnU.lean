/- The contracts that PropFollows asks, at the trees that it builds; layer 6 (prop). -/
import Derived.Test.YtakhdlidikbnjaaFmath
import Derived.Test.YtakhdlidikbnjaaFnS
import Derived.Test.YtakhdlidikbnjaaFnT
namespace Go.Proofs.Ytakhdlidikbnjaa
open Go.RowKit Go.PlainAid

theorem rep_row {B : Nat} {w : World} {g : Nat} {o : Int} {ks : List Ex} (ka : Nat → Option Addr) (kc : Nat → Nat) (hg : g < B) (hc : ∀ j u, (csOf ks ka kc)[j]? = some u → w.cell? ⟨g, j, none⟩ = some u) (hk : ∀ i, i < ks.length → Rep B w (ka i) (kd ks i)) : Rep B w (some ⟨g, 0, none⟩) (.mk o 0 ks) := by
  refine Rep.node hg (fun i hi => ?_)
  obtain ⟨c0, c1, c2⟩ := csOf_get (ka := ka) (kc := kc) hi
  have hat : ∀ j u, (csOf ks ka kc)[j]? = some u → w.cell? ⟨g, 0 + j, none⟩ = some u := fun j u h => by rw [Nat.zero_add]; exact hc j u h
  exact ⟨ka i, kc i, hat _ _ c0, hat _ _ c1, hat _ _ c2, hk i hi⟩
theorem rep_two {B : Nat} {w : World} {g : Nat} {o : Int} {a b : Ex} {Aa Ab : Option Addr} {ca cb : Nat} (h : Blk w g 24 #[.int .i64 a.op, .int .i64 a.vr, .slice Aa a.ks.length ca, .int .i64 b.op, .int .i64 b.vr, .slice Ab b.ks.length cb]) (hg : g < B) (ha : Rep B w Aa a) (hb : Rep B w Ab b) : Rep B w (some ⟨g, 0, none⟩) (.mk o 0 [a, b]) := by
  refine rep_row (fun i => if i = 0 then Aa else Ab) (fun i => if i = 0 then ca else cb) hg (fun j u hj => ?_) (fun i hi => ?_)
  · rw [h.cell j]
    have e : csOf [a, b] (fun i => if i = 0 then Aa else Ab) (fun i => if i = 0 then ca else cb) = [.int .i64 a.op, .int .i64 a.vr, .slice Aa a.ks.length ca, .int .i64 b.op, .int .i64 b.vr, .slice Ab b.ks.length cb] := rfl
    rw [e] at hj
    simpa using hj
  · have hi2 : i < 2 := hi
    rcases (show i = 0 ∨ i = 1 by omega) with rfl | rfl
    · exact ha
    · exact hb
theorem rep_three {B : Nat} {w : World} {g : Nat} {o : Int} {a b : Ex} {Aa Ab : Option Addr} {ca cb : Nat} (h : Blk w g 24 #[.int .i64 a.op, .int .i64 a.vr, .slice Aa a.ks.length ca, .int .i64 b.op, .int .i64 b.vr, .slice Ab b.ks.length cb, .int .i64 b.op, .int .i64 b.vr, .slice Ab b.ks.length cb]) (hg : g < B) (ha : Rep B w Aa a) (hb : Rep B w Ab b) : Rep B w (some ⟨g, 0, none⟩) (.mk o 0 [a, b, b]) := by
  refine rep_row (fun i => if i = 0 then Aa else Ab) (fun i => if i = 0 then ca else cb) hg (fun j u hj => ?_) (fun i hi => ?_)
  · rw [h.cell j]
    have e : csOf [a, b, b] (fun i => if i = 0 then Aa else Ab) (fun i => if i = 0 then ca else cb) = [.int .i64 a.op, .int .i64 a.vr, .slice Aa a.ks.length ca, .int .i64 b.op, .int .i64 b.vr, .slice Ab b.ks.length cb, .int .i64 b.op, .int .i64 b.vr, .slice Ab b.ks.length cb] := rfl
    rw [e] at hj
    simpa using hj
  · have hi2 : i < 3 := hi
    rcases (show i = 0 ∨ i = 1 ∨ i = 2 by omega) with rfl | rfl | rfl
    · exact ha
    · exact hb
    · exact hb
def MadeP (w : World) (t : Ex) (n : Nat) (o : Int) (e : Ending) (w' : World) : Prop := ∃ A c, e = .returned (.agg #[.int .i64 o, .int .i64 0, .slice A n c]) ∧ Rep w'.heap.size w' A t ∧ Below w.heap.size w w'
theorem c_not (a : Ex) (A : Option Addr) (c : Nat) (w : World) (hs : a.sz ≤ 1000000) (hR : Rep w.heap.size w A a) : Calls Try.prog 20 #[.agg #[.int .i64 a.op, .int .i64 a.vr, .slice A a.ks.length c]] w (MadeP w (.mk 4 0 [a]) 1 4) := by
  refine (pr_Not (fun x => x < w.heap.size) a A c w hs hR.toS (fun x hx => hx)).mono ?_
  rintro e w' ⟨A, c, rfl, hr, hb⟩
  exact ⟨A, c, rfl, hr.toR (fun b hb => hb.2), hb⟩
theorem two_in (o : Int) (a b : Ex) (Aa Ab : Option Addr) (ca cb : Nat) (w : World) (ha : Rep w.heap.size w Aa a) (hb : Rep w.heap.size w Ab b) :
    Rep (w.alloc (.cells #[.int .i64 a.op, .int .i64 a.vr, .slice Aa a.ks.length ca, .int .i64 b.op, .int .i64 b.vr, .slice Ab b.ks.length cb] 24)).heap.size (w.alloc (.cells #[.int .i64 a.op, .int .i64 a.vr, .slice Aa a.ks.length ca, .int .i64 b.op, .int .i64 b.vr, .slice Ab b.ks.length cb] 24)) (some ⟨w.heap.size, 0, none⟩) (.mk o 0 [a, b]) :=
  rep_two (Blk.new _ _ _) (by simp) (ha.step (bal w _)) (hb.step (bal w _))
theorem sz_two (o : Int) (a b : Ex) : (Ex.mk o 0 [a, b]).sz = 1 + (a.sz + b.sz) := by rw [sz_eq]; show 1 + (a.sz + (b.sz + 0)) = _; omega
theorem c_and (a b : Ex) (Aa Ab : Option Addr) (ca cb : Nat) (w : World) (ha : Rep w.heap.size w Aa a) (hb : Rep w.heap.size w Ab b) (sa : a.sz ≤ 1000000) (sb : b.sz ≤ 1000000) :
    Calls Try.prog 17 #[.slice (some ⟨w.heap.size, 0, none⟩) 2 2] (w.alloc (.cells #[.int .i64 a.op, .int .i64 a.vr, .slice Aa a.ks.length ca, .int .i64 b.op, .int .i64 b.vr, .slice Ab b.ks.length cb] 24)) (MadeP w (.mk 5 0 [a, b]) 2 5) := by
  refine (pr_And (fun x => x < (w.alloc (.cells #[.int .i64 a.op, .int .i64 a.vr, .slice Aa a.ks.length ca, .int .i64 b.op, .int .i64 b.vr, .slice Ab b.ks.length cb] 24)).heap.size) (.mk 5 0 [a, b]) rfl rfl _ 2 _ (by rw [sz_two]; omega) (two_in 5 a b Aa Ab ca cb w ha hb).toS (fun x hx => hx)).mono ?_
  rintro e w' ⟨A, c, rfl, hr, hb⟩
  exact ⟨A, c, rfl, hr.toR (fun b hb => hb.2), bt (bal w _) hb⟩
theorem c_or (a b : Ex) (Aa Ab : Option Addr) (ca cb : Nat) (w : World) (ha : Rep w.heap.size w Aa a) (hb : Rep w.heap.size w Ab b) (sa : a.sz ≤ 1000000) (sb : b.sz ≤ 1000000) :
    Calls Try.prog 18 #[.slice (some ⟨w.heap.size, 0, none⟩) 2 2] (w.alloc (.cells #[.int .i64 a.op, .int .i64 a.vr, .slice Aa a.ks.length ca, .int .i64 b.op, .int .i64 b.vr, .slice Ab b.ks.length cb] 24)) (MadeP w (.mk 6 0 [a, b]) 2 6) := by
  refine (pr_Or (fun x => x < (w.alloc (.cells #[.int .i64 a.op, .int .i64 a.vr, .slice Aa a.ks.length ca, .int .i64 b.op, .int .i64 b.vr, .slice Ab b.ks.length cb] 24)).heap.size) (.mk 6 0 [a, b]) rfl rfl _ 2 _ (by rw [sz_two]; omega) (two_in 6 a b Aa Ab ca cb w ha hb).toS (fun x hx => hx)).mono ?_
  rintro e w' ⟨A, c, rfl, hr, hb⟩
  exact ⟨A, c, rfl, hr.toR (fun b hb => hb.2), bt (bal w _) hb⟩
theorem c_ev (t : Ex) (A : Option Addr) (c : Nat) (L : Option Addr) (cl : Nat) (l : List Bool) (q : Bool) (w : World) (ht : shp t ∧ t.dp ≤ 64 ∧ t.sz ≤ 4096) (hq : val l t = q) (hl : l.length ≤ 100) (hR : Rep w.heap.size w A t) (hL : RB w w.heap.size L l) :
    Calls Try.prog 23 #[.agg #[.int .i64 t.op, .int .i64 t.vr, .slice A t.ks.length c], .slice L l.length cl] w (ValP w q) := by
  have h := pr_Eval t A c L cl l w (by have := ht.2.2; omega) (by omega) hR hL
  rw [evalS_ok l ht.1 ht.2.1 ht.2.2, hq] at h
  exact h
/-- A variable in block g that holds the tree t, with n Kids in block r. -/
def VarR (g r n : Nat) (o : Int) (t : Ex) (w : World) : Prop := (w.cell? ⟨g, 0, none⟩ = some (.int .i64 o) ∧ w.cell? ⟨g, 1, none⟩ = some (.int .i64 0) ∧ w.cell? ⟨g, 2, none⟩ = some (.slice (some ⟨r, 0, none⟩) n n)) ∧ Rep w.heap.size w (some ⟨r, 0, none⟩) t ∧ g < w.heap.size
theorem VarR.step {g r n : Nat} {o : Int} {t : Ex} {w w' : World} (h : VarR g r n o t w) (hb : Below w.heap.size w w') : VarR g r n o t w' :=
  ⟨⟨(hb.cell (p := ⟨g, 0, none⟩) h.2.2).trans h.1.1, (hb.cell (p := ⟨g, 1, none⟩) h.2.2).trans h.1.2.1, (hb.cell (p := ⟨g, 2, none⟩) h.2.2).trans h.1.2.2⟩, h.2.1.step hb, Nat.lt_of_lt_of_le h.2.2 hb.size⟩
theorem var_of (w : World) (row : Array Value) (n : Nat) (o : Int) (t : Ex) (hR : Rep (w.alloc (.cells row 24)).heap.size (w.alloc (.cells row 24)) (some ⟨w.heap.size, 0, none⟩) t) :
    VarR (w.heap.size + 1) w.heap.size n o t ((w.alloc (.cells row 24)).alloc (.cells #[.int .i64 o, .int .i64 0, .slice (some ⟨w.heap.size, 0, none⟩) n n] 24)) ∧ Below w.heap.size w ((w.alloc (.cells row 24)).alloc (.cells #[.int .i64 o, .int .i64 0, .slice (some ⟨w.heap.size, 0, none⟩) n n] 24)) ∧
      ((w.alloc (.cells row 24)).alloc (.cells #[.int .i64 o, .int .i64 0, .slice (some ⟨w.heap.size, 0, none⟩) n n] 24)).heap.size = w.heap.size + 2 := by
  have hk := Blk.new (w.alloc (.cells row 24)) 24 #[.int .i64 o, .int .i64 0, .slice (some ⟨w.heap.size, 0, none⟩) n n]
  have hz : (w.alloc (.cells row 24)).heap.size = w.heap.size + 1 := by simp
  have hb := bal (w.alloc (.cells row 24)) (.cells #[.int .i64 o, .int .i64 0, .slice (some ⟨w.heap.size, 0, none⟩) n n] 24)
  rw [hz] at hk
  exact ⟨⟨⟨hk.cell 0, hk.cell 1, hk.cell 2⟩, hR.step hb, hk.lt⟩, bt (bal w _) hb, by simp⟩
theorem three_in (o : Int) (a b : Ex) (Aa Ab : Option Addr) (ca cb : Nat) (w : World) (ha : Rep w.heap.size w Aa a) (hb : Rep w.heap.size w Ab b) :
    Rep (w.alloc (.cells #[.int .i64 a.op, .int .i64 a.vr, .slice Aa a.ks.length ca, .int .i64 b.op, .int .i64 b.vr, .slice Ab b.ks.length cb, .int .i64 b.op, .int .i64 b.vr, .slice Ab b.ks.length cb] 24)).heap.size (w.alloc (.cells #[.int .i64 a.op, .int .i64 a.vr, .slice Aa a.ks.length ca, .int .i64 b.op, .int .i64 b.vr, .slice Ab b.ks.length cb, .int .i64 b.op, .int .i64 b.vr, .slice Ab b.ks.length cb] 24)) (some ⟨w.heap.size, 0, none⟩) (.mk o 0 [a, b, b]) :=
  rep_three (Blk.new _ _ _) (by simp) (ha.step (bal w _)) (hb.step (bal w _))
/-- append([]bool{}, l...) -/
theorem wpList_copy_bools {ops : Array Oper} {rest : List Oper} {o : Oper} {a : Act} {Q : Exit → Act → World → Prop} (hgd : o.guard = none) (s x : Operand)
    (ho : o.op = .call { callee := .builtin .append, args := #[s, x], argTypes := #[42, 42] }) (wr : World) (l : List Bool) (g off c : Nat) (hs : a.eval s = .slice (some ⟨wr.heap.size, 0, none⟩) 0 0)
    (hx : a.eval x = .slice (some ⟨g, off, none⟩) l.length c) (hRB : RB wr wr.heap.size (some ⟨g, off, none⟩) l) (hp : 0 < l.length) (hl : l.length ≤ 1000)
    (h : ∀ g' cap cur w', Blk w' g' 4 cur → cur.toList.take l.length = l.map Value.bool → wr.heap.size ≤ g' → Below wr.heap.size wr w' → wpList Try.prog ops Q rest (a.put o.dst (.slice (some ⟨g', 0, none⟩) l.length cap)) w') : wpList Try.prog ops Q (o :: rest) a (wr.alloc (.cells #[] 4)) := by
  obtain ⟨i0, hi0, hz0, hz1, hz2⟩ := info_parts info4
  obtain ⟨g1, o1, he, hlt, hc⟩ := hRB hp
  cases he
  have hal : Below wr.heap.size wr (wr.alloc (.cells #[] 4)) := bal _ _
  refine wpList_append_own _ hgd s x 42 ho wr.heap.size 4 i0 _ 1 1 Try.underlying42 hi0 hz0 hz1 hz2 rfl (by decide) _ 0 [] hs (World.ownsRow_made wr #[] 0 (Nat.le_refl _) (Nat.zero_le _) rfl) ⟨g, off, none⟩ l.length c (l.map Value.bool) hx (by simp) (fun j u hj => ?_) (by intro u hu; obtain ⟨b, _, rfl⟩ := List.mem_map.1 hu; rfl) (by unfold maxLen; omega) (by omega) (by simp) ?_
  · rw [adr_add]
    have hj2 : j < l.length := by
      rcases Nat.lt_or_ge j l.length with q | q
      · exact q
      · rw [List.getElem?_eq_none (by simpa using q)] at hj; cases hj
    refine (hal.cell (p := ⟨g, off + j, none⟩) hlt).trans ((hc j hj2).trans ?_)
    rw [← hj]
    simp [List.getD, hj2]
  · intro v' w' hO hg _
    rw [Nat.zero_add, List.nil_append] at hO
    rcases hO.2 with ⟨_, h0⟩ | ⟨g', cap, cur, rfl, hb, hh, _, _, _, htk⟩
    · omega
    · refine h g' cap cur w' hh (by simpa using htk) hb ?_
      exact hal.grown hg (by simp) (fun k e => by simp [Value.ownBlock] at e; omega)
theorem row_at {u : World} {g n : Nat} {cur : Array Value} {l : List Bool} (h : Blk u g 4 cur) (ht : cur.toList.take l.length = l.map Value.bool) (hn : n < l.length) : u.cell? ⟨g, n, none⟩ = some (.bool (lb l n)) := by
  rw [h.cell n]
  have h1 : (cur.toList.take l.length)[n]? = (l.map Value.bool)[n]? := by rw [ht]
  rw [List.getElem?_take, if_pos hn, Array.getElem?_toList] at h1
  rw [h1]
  simp [lb, List.getD, hn]
theorem set_rb {u : World} {g k : Nat} {cur : Array Value} {l : List Bool} (h : Blk u g 4 cur) (ht : cur.toList.take l.length = l.map Value.bool) (hk : k < l.length) (b : Bool) :
    RB (u.setCell ⟨g, k, none⟩ (.bool b)) (u.setCell ⟨g, k, none⟩ (.bool b)).heap.size (some ⟨g, 0, none⟩) (l.set k b) := fun _ => by
  have h2 := h.set_ k (.bool b)
  refine ⟨g, 0, rfl, h2.lt, fun i hi => ?_⟩
  have hi2 : i < l.length := by simpa using hi
  rw [Nat.zero_add, h2.cell i]
  have h0 : u.cell? ⟨g, k, none⟩ = some (.bool (lb l k)) := row_at h ht hk
  rw [h.cell k] at h0
  have hks : k < cur.size := by
    rcases Nat.lt_or_ge k cur.size with q | q
    · exact q
    · rw [Array.getElem?_eq_none q] at h0; cases h0
  by_cases e : k = i
  · subst e
    simp [List.getD, hk, hks]
  · have hr := row_at h ht hi2
    rw [h.cell i] at hr
    rw [Array.getElem?_setIfInBounds_ne e, hr]
    simp [lb, List.getD, List.getElem?_set_ne e]
end Go.Proofs.Ytakhdlidikbnjaa
