/- Contract of Unlike of the reference of layer 11 (memo), over the translation. -/
import Derived.Test.YtejmnjgmmjpenaaFn9
import Derived.Laws.AppendOwn
namespace Go.Proofs.Ytejmnjgmmjpenaa
open Go.RowKit

def cellsA (l : List Act) : List Value := l.flatMap fun x => (actRow x).toList
theorem cellsA_len (l : List Act) : (cellsA l).length = l.length * 6 := by
  induction l with
  | nil => rfl
  | cons x t ih =>
    have : cellsA (x :: t) = (actRow x).toList ++ cellsA t := rfl
    rw [this, List.length_append, ih, List.length_cons]
    show 6 + t.length * 6 = _
    omega
theorem cellsA_at : ∀ (l : List Act) (i j : Nat) (x : Act), l[i]? = some x → j < 6 → (cellsA l)[i * 6 + j]? = (actRow x)[j]?
  | [], i, _, _, h, _ => by simp at h
  | y :: t, 0, j, x, h, hj => by
    have e : cellsA (y :: t) = (actRow y).toList ++ cellsA t := rfl
    have h2 : y = x := by simpa using h
    subst h2
    rw [e, List.getElem?_append_left (by show 0 * 6 + j < 6; omega)]
    simp
  | y :: t, i + 1, j, x, h, hj => by
    have e : cellsA (y :: t) = (actRow y).toList ++ cellsA t := rfl
    have hl : (actRow y).toList.length = 6 := rfl
    rw [e, List.getElem?_append_right (by rw [hl]; omega), hl, show (i + 1) * 6 + j - 6 = i * 6 + j by omega]
    exact cellsA_at t i j x (by simpa using h) hj
def OwnA (w : World) (base : Nat) (v : Value) (l : List Act) : Prop := w.ownsRow base 27 6 v l.length (cellsA l)
theorem OwnA.empty (w : World) : OwnA (w.alloc (.cells #[] 27)) w.heap.size (.slice (some ⟨w.heap.size, 0, none⟩) 0 0) [] := by
  refine ⟨rfl, .inr ⟨w.heap.size, 0, #[], rfl, Nat.le_refl _, ?_, Nat.le_refl _, Nat.zero_le _, rfl, rfl⟩⟩
  exact heap_alloc_new w _
theorem OwnA.block {w : World} {base : Nat} {v : Value} {l : List Act} (h : OwnA w base v l) (k : Nat) (e : v.ownBlock = some k) : base ≤ k := by
  rcases h.2 with ⟨rfl, _⟩ | ⟨g, cap, cur, rfl, hg, _⟩
  · simp [Value.ownBlock] at e
  · simp [Value.ownBlock] at e; omega
theorem OwnA.push {w : World} {base : Nat} {v : Value} {l : List Act} {x : Act} (h : w.ownsRow base 27 6 v (l.length + 1) (cellsA l ++ (actRow x).toList)) : OwnA w base v (l ++ [x]) := by
  unfold OwnA
  have e : cellsA (l ++ [x]) = cellsA l ++ (actRow x).toList := by unfold cellsA; simp
  rw [e, List.length_append]
  exact h
theorem OwnA.grow {w wr w1 : World} {v : Value} {l : List Act} {o : Obj} (hO : OwnA wr w.heap.size v l) (hb : Below w.heap.size w wr) (hg : (wr.alloc o).grownBy w1 v.ownBlock) : Below w.heap.size w w1 :=
  (hb.alloc hb.size _).grown hg (by have := hb.size; simp; omega) (fun k e => hO.block k e)
theorem OwnA.keep {w w' : World} {base : Nat} {v : Value} {l : List Act} (h : OwnA w base v l) (hb : Below w.heap.size w w') : OwnA w' base v l := by
  obtain ⟨h1, h2⟩ := h
  refine ⟨h1, ?_⟩
  rcases h2 with h2 | ⟨g, cap, cur, e, hg, hh, r⟩
  · exact .inl h2
  · have hlt : g < w.heap.size := by
      rcases Nat.lt_or_ge g w.heap.size with q | q
      · exact q
      · rw [Array.getElem?_eq_none q] at hh; cases hh
    exact .inr ⟨g, cap, cur, e, hg, (hb.block g hlt).trans hh, r⟩
/-- The row of the operations l, at A, in a block from lo on. -/
def RU (w : World) (lo : Nat) (A : Option Addr) (l : List Act) : Prop :=
  RA w w.heap.size A l ∧ ∀ a, A = some a → lo ≤ a.block
theorem OwnA.form {w : World} {base : Nat} {v : Value} {l : List Act} (h : OwnA w base v l) : ∃ A c, v = .slice A l.length c ∧ RU w base A l := by
  rcases h.2 with ⟨rfl, h0⟩ | ⟨g, cap, cur, rfl, hg, hh, hn, hc, hsz, htk⟩
  · have : l = [] := List.eq_nil_of_length_eq_zero h0
    subst this
    exact ⟨none, 0, rfl, RA.nil, fun _ h => by cases h⟩
  · refine ⟨_, cap, rfl, fun hp => ⟨g, 0, rfl, ?_, fun i x hx j hj => ?_⟩, fun a ha => by cases ha; exact hg⟩
    · rcases Nat.lt_or_ge g w.heap.size with hlt | hge
      · exact hlt
      · rw [Array.getElem?_eq_none hge] at hh; cases hh
    · have hil : i < l.length := (List.getElem?_eq_some_iff.1 hx).1
      have hB : Blk w g 27 cur := hh
      rw [Nat.zero_add, hB.cell, ← cellsA_at l i j x hx hj, ← htk, List.getElem?_take_of_lt (by omega), Array.getElem?_toList]
theorem RU.frm {S : Nat → Prop} {w w' : World} {lo : Nat} {A : Option Addr} {l : List Act} (h : RU w lo A l) (hf : Frm S w w') (hS : ∀ k, S k → k < lo) : RU w' lo A l := by
  refine ⟨fun hp => ?_, h.2⟩
  obtain ⟨b, off, rfl, hb, hc⟩ := h.1 hp
  refine ⟨b, off, rfl, Nat.lt_of_lt_of_le hb hf.size, fun i x hx j hj => ?_⟩
  have hlo : lo ≤ b := h.2 _ rfl
  have hblk := hf.block b hb (fun hs => by have := hS b hs; omega)
  rw [← hc i x hx j hj]
  exact World.cell?_of_block (w := w) hblk
theorem info27 : (Try.prog.info? 27).map (fun i => (i.zero, i.size, i.bytes)) = some (some (.agg #[.int .u8 0, .int .i64 0, .int .i64 0, .int .i64 0, .int .i64 0, .int .i64 0]), 6, 48) := by kernel_rfl
theorem info_parts {P : Program} {t : TypeId} {z : Option Value} {a b : Nat} (h : (P.info? t).map (fun i => (i.zero, i.size, i.bytes)) = some (z, a, b)) : ∃ i, P.info? t = some i ∧ i.zero = z ∧ i.size = a ∧ i.bytes = b := by
  cases hi : P.info? t with
  | none => rw [hi] at h; cases h
  | some i =>
    rw [hi] at h
    simp only [Option.map_some, Option.some.injEq, Prod.mk.injEq] at h
    exact ⟨i, rfl, h.1, h.2.1, h.2.2⟩
theorem cells_six (w : World) (x : Act) (t : TypeId) (j : Nat) (u : Value) (h : (actRow x).toList[j]? = some u) : (w.alloc (.cells (actRow x) t)).cell? ((⟨w.heap.size, 0, none⟩ : Addr).add j) = some u := by
  rw [addr_add, Nat.zero_add, (Blk.new w t (actRow x)).cell, ← h, Array.getElem?_toList]
theorem act_one (x : Act) : ∀ u ∈ (actRow x).toList, u.oneCell' = true := by
  intro u hu
  simp only [actRow, List.mem_cons, List.not_mem_nil, or_false] at hu
  rcases hu with rfl | rfl | rfl | rfl | rfl | rfl <;> rfl
/-- No two of the operations have the same key. -/
def Apart2 (l : List Act) : Prop := l.Pairwise fun x y => ¬ keyP x y
def isIn (l : List Act) (x : Act) (k : Nat) : Bool := (l.take k).any fun y => decide (keyP y x)
theorem isIn_succ {l : List Act} {x y : Act} {k : Nat} (h : l[k]? = some y) : isIn l x (k + 1) = (isIn l x k || decide (keyP y x)) := by
  unfold isIn
  have hk := (List.getElem?_eq_some_iff.1 h)
  rw [List.take_succ_eq_append_getElem hk.1, List.any_append, hk.2]
  simp
theorem Apart2.push {l : List Act} {x : Act} (h : Apart2 l) (hx : isIn l x l.length = false) : Apart2 (l ++ [x]) := by
  unfold Apart2
  rw [List.pairwise_append]
  refine ⟨h, List.pairwise_singleton _ _, fun y hy z hz => ?_⟩
  rw [List.mem_singleton] at hz
  subst hz
  unfold isIn at hx
  rw [List.take_length, List.any_eq_false] at hx
  have := hx y hy
  simpa using this

/-- A region that only reads, closed to reduction: a guarded operation ahead would unfold the whole region. -/
structure StillH (P : Program) (ops : Array Oper) (w : World) (Q : Go.Act → Prop) (l : List Oper) (a : Go.Act) : Prop where
  out : wpStill P ops w Q l a
theorem stillH_tail {P : Program} {id : Nat} {Q : Exit → Go.Act → World → Prop} {a : Go.Act} {w : World} {l : List Oper} (n : Nat) (hm : P.follows .mixedOrders = true) (hB : Region.lexTailB .any l.toArray n = true)
    (h : ∀ w2, w2 = w.drew → StillH P l.toArray w2 (fun a' => wpList P l.toArray Q (l.drop n) a' w2) (l.take n) a) : (Code.region id l.toArray true).wp P Q a w :=
  still_tail n hm hB fun w2 hw2 => (h w2 hw2).out
theorem stillH_want {P : Program} {ops : Array Oper} {w : World} {Q : Go.Act → Prop} {a : Go.Act} {o : Oper} {rest : List Oper} (hw : Region.wanted o (yielded ops a.tmps) = true)
    (h : ∀ K : Go.Act → Prop, (∀ a, StillH P ops w Q rest a → K a) → o.still P a w K) : StillH P ops w Q (o :: rest) a :=
  ⟨wpStill_step fun K hK => by rw [if_pos hw]; exact h K fun a ha => hK a ha.out⟩
theorem stillH_skip {P : Program} {ops : Array Oper} {w : World} {Q : Go.Act → Prop} {a : Go.Act} {o : Oper} {rest : List Oper} (hw : Region.wanted o (yielded ops a.tmps) = false)
    (h : StillH P ops w Q rest (a.put o.dst undef)) : StillH P ops w Q (o :: rest) a :=
  ⟨wpStill_step fun K hK => by rw [if_neg (by rw [hw]; decide)]; exact hK _ h.out⟩
theorem stillH_nil {P : Program} {ops : Array Oper} {w : World} {Q : Go.Act → Prop} {a : Go.Act} (h : Q a) : StillH P ops w Q [] a := ⟨wpStill_nil h⟩

set_option maxRecDepth 100000 in
set_option maxHeartbeats 4000000 in
theorem ref_Unlike {w : World} {B : Nat} {A : Option Addr} {l : List Act} (hRA : RA w B A l) (hB : B ≤ w.heap.size) (c : Nat) (hlc : l.length ≤ 60) :
    Calls Try.prog 16 #[.slice A l.length c] w fun e w' => ∃ U v, e = .returned v ∧ OwnA w' w.heap.size v U ∧ U.length ≤ l.length ∧ Apart2 U ∧ Below w.heap.size w w' := by
  obtain ⟨i0, hi0, hz0, hz1, hz2⟩ := info_parts info27
  have HR := Lib.hid hRA
  have hE := Lib.hid (OwnA.empty w)
  have hbw0 : Below w.heap.size w (w.alloc (.cells #[] 27)) := (Below.refl _ _).alloc (Nat.le_refl _) _
  clear hRA
  go_enter Try.func16, Try.ntmps16
  go_wp2_with fail
  go_loopw [3, 4] (fun o i wr => ∃ (k : Nat) (U : List Act), k ≤ l.length ∧ i = .int .i64 k ∧ OwnA wr w.heap.size o U ∧ U.length ≤ k ∧ Apart2 U ∧ Below w.heap.size w wr) (fun _ i _ => l.length - (intOf i).toNat)
  case atStart => exact ⟨0, [], Nat.zero_le _, rfl, hE.out, Nat.le_refl _, List.Pairwise.nil, hbw0⟩
  case round =>
    obtain ⟨k, U, hk, rfl, hO, hUk, hAp, hbw⟩ := hrel
    have HO := Lib.hid hO
    have HAp := Lib.hid hAp
    have HBW := Lib.hid hbw
    clear hO hAp hbw hbw0 hE
    by_cases hlt : k < l.length
    · have h1' : (k : Int) < (l.length : Int) := by omega
      obtain ⟨y, hy⟩ : ∃ y, l[k]? = some y := ⟨_, List.getElem?_eq_getElem hlt⟩
      obtain ⟨b, off, rfl, _⟩ := HR.out.at hy
      obtain ⟨Au, cu, rfl, _⟩ := HO.out.form
      go_wp2_with fail
      go_loopw [5, 6] (fun s j ws => ∃ m : Nat, m ≤ U.length ∧ j = .int .i64 m ∧ s = .bool (isIn U y m) ∧ Below wr.heap.size wr ws) (fun _ j _ => U.length - (intOf j).toNat)
      case atStart => exact ⟨0, Nat.zero_le _, rfl, rfl, Below.refl _ _⟩
      case round =>
        obtain ⟨m, hm, rfl, rfl, hbs⟩ := hrel
        have HBS := Lib.hid hbs
        clear hbs
        by_cases hmt : m < U.length
        · have h2' : (m : Int) < (U.length : Int) := by omega
          obtain ⟨z, hz⟩ : ∃ z, U[m]? = some z := ⟨_, List.getElem?_eq_getElem hmt⟩
          have hsx := isIn_succ (x := y) hz
          obtain ⟨d, hd⟩ : ∃ d, isIn U y m = d := ⟨_, rfl⟩
          rw [hd] at hsx ⊢
          have HSX := Lib.hid hsx
          clear hsx hd
          cases d with
          | true =>
            go_wp2_with fail
            refine stillH_tail 10 (by kernel_rfl) (by kernel_rfl) fun w2 hw2 => ?_
            simp only [List.take_succ_cons, List.take_zero, List.drop_succ_cons, List.drop_zero]
            have HB2 := Lib.hid (HBS.out.trans ((show Below wr.heap.size wr w2 by rw [hw2]; exact (Below.refl _ _).drew).mono HBS.out.size))
            clear hw2
            iterate 2 (refine stillH_want (by kernel_rfl) (fun K hK => ?_); go_simp; refine hK _ ?_; clear hK K)
            iterate 8 (refine stillH_skip (by kernel_rfl) ?_)
            refine stillH_nil ?_
            go_wp2
            go_roundw
            case rel => exact ⟨m + 1, by omega, by go_num, by rw [HSX.out]; rfl, HB2.out⟩
            case measure => simp [intOf]; omega
          | false =>
            go_wp2_with fail
            refine stillH_tail 10 (by kernel_rfl) (by kernel_rfl) fun w2 hw2 => ?_
            simp only [List.take_succ_cons, List.take_zero, List.drop_succ_cons, List.drop_zero]
            have HB2 := Lib.hid (HBS.out.trans ((show Below wr.heap.size wr w2 by rw [hw2]; exact (Below.refl _ _).drew).mono HBS.out.size))
            obtain ⟨Au2, cu2, he2, hRU⟩ := (HO.out.keep HB2.out).form
            cases he2
            obtain ⟨bu, offu, rfl, _⟩ := hRU.1.at hz
            obtain ⟨z0, z1, z2, z3, z4, z5⟩ := hRU.1.cells hz
            obtain ⟨y0, y1, y2, y3, y4, y5⟩ := (HR.out.below ((HBW.out.trans (HB2.out.mono HBW.out.size)).mono hB)).cells hy
            clear hw2 hRU
            iterate 10 (refine stillH_want (by kernel_rfl) (fun K hK => ?_); go_simp; refine hK _ ?_; clear hK K)
            refine stillH_nil ?_
            clear z0 z1 z2 z3 z4 z5 y0 y1 y2 y3 y4 y5
            have HK := Lib.hid (ref_Key z y w2)
            go_wp2_with fail
            refine HK.out.mono ?_; rintro e w3 ⟨rfl, hb3⟩
            have HB3 := Lib.hid (HB2.out.trans (hb3.mono HB2.out.size))
            obtain ⟨d, hd⟩ : ∃ d, decide (keyP z y) = d := ⟨_, rfl⟩
            rw [hd] at HSX ⊢
            clear hb3 HK hd
            go_wp2
            go_roundw
            case rel => exact ⟨m + 1, by omega, by go_num, by rw [HSX.out]; rfl, HB3.out⟩
            case measure => simp [intOf]; omega
        · have h2' : ¬ (m : Int) < (U.length : Int) := by omega
          obtain rfl : m = U.length := by omega
          obtain ⟨d, hd⟩ : ∃ d, isIn U y U.length = d := ⟨_, rfl⟩
          rw [hd]
          have HD := Lib.hid hd
          have HO2 := Lib.hid (HO.out.keep HBS.out)
          have HBW2 := Lib.hid (HBW.out.trans (HBS.out.mono HBW.out.size))
          clear hd
          cases d with
          | true =>
            go_wp2
            go_roundw
            case rel => exact ⟨k + 1, U, by omega, by go_num, HO2.out, by omega, HAp.out, HBW2.out⟩
            case measure => simp [intOf]; omega
          | false =>
            have HAp2 := Lib.hid (HAp.out.push HD.out)
            obtain ⟨y0, y1, y2, y3, y4, y5⟩ := (HR.out.below (HBW2.out.mono hB)).cells hy
            have hU60 : U.length + 1 ≤ 61 := by omega
            have hmx : U.length + 1 ≤ maxLen := by unfold maxLen; omega
            have hby : (U.length + 1) * 48 ≤ 140737488355328 := by omega
            have hsz2 : w.heap.size ≤ (wr.alloc (.cells (actRow y) 27)).heap.size := by have := HBW2.out.size; simp; omega
            go_wp2_with (at_builtin; refine wpList_append_own _ rfl _ _ 22 rfl w.heap.size 27 i0 _ 6 48 Try.underlying22 hi0 hz0 hz1 hz2 rfl (by decide) _ _ _ rfl (World.ownsRow.alloc HO2.out _) ⟨wr.heap.size, 0, none⟩ 1 1 (actRow y).toList rfl rfl (cells_six _ _ _) (act_one _) hmx hby hsz2 ?_; intro v2 w1 hown hg1 _; have HO1 := Lib.hid (OwnA.push hown); have HB1 := Lib.hid (HO2.out.grow HBW2.out hg1); clear hown hg1 HO2 HBW2 y0 y1 y2 y3 y4 y5)
            go_wp2
            go_roundw
            case rel => exact ⟨k + 1, U ++ [y], by omega, by go_num, HO1.out, by simp; omega, HAp2.out, HB1.out⟩
            case measure => simp [intOf]; omega
    · have h1' : ¬ (k : Int) < (l.length : Int) := by omega
      go_wp2
      go_ret
      exact ⟨U, _, rfl, HO.out, by omega, HAp.out, HBW.out⟩
end Go.Proofs.Ytejmnjgmmjpenaa
