/- A table in memory: contracts of New, Size, Count of layer 11 (memo), over the translation. -/
import Derived.Test.YtejmnjgmmjpenaaFn1
namespace Go.Proofs.Ytejmnjgmmjpenaa
open Go.RowKit

/-- A region that reads and ends in one forced tail: the world behind its draw under a name of its own. -/
theorem still_tail {P : Program} {id : Nat} {Q : Exit → Act → World → Prop} {a : Act} {w : World} {l : List Oper} (n : Nat) (hm : P.follows .mixedOrders = true) (hB : Region.lexTailB .any l.toArray n = true)
    (h : ∀ w2, w2 = w.drew → wpStill P l.toArray w2 (fun a' => wpList P l.toArray Q (l.drop n) a' w2) (l.take n) a) : (Code.region id l.toArray true).wp P Q a w :=
  wp_region_still_tail n hm hB (h _ rfl)
def ptrV (p : Option Nat) : Value := .pointer (p.map fun q => ⟨q, 0, none⟩)
def ptrRow (P : Nat → Option Nat) (m : Nat) : Array Value := ((List.range m).map fun i => ptrV (P i)).toArray
theorem ptr_at (P : Nat → Option Nat) {m i : Nat} (h : i < m) : (ptrRow P m)[i]? = some (ptrV (P i)) := by unfold ptrRow; simp [h]
def updP (P : Nat → Option Nat) (i q : Nat) : Nat → Option Nat := fun j => if j = i then some q else P j
theorem ptr_upd (P : Nat → Option Nat) {m i : Nat} (q : Nat) (h : i < m) : (ptrRow P m).setIfInBounds i (.pointer (some ⟨q, 0, none⟩)) = ptrRow (updP P i q) m := by
  apply Array.ext_getElem?
  intro j
  rw [Array.getElem?_setIfInBounds]
  have hs : ∀ P, (ptrRow P m).size = m := fun P => by unfold ptrRow; simp
  by_cases e : i = j
  · subst e
    rw [if_pos rfl, hs, if_pos h, ptr_at _ h]
    unfold updP
    rw [if_pos rfl]; rfl
  · rw [if_neg e]
    by_cases hj : j < m
    · rw [ptr_at _ hj, ptr_at _ hj]
      unfold updP
      rw [if_neg (fun x => e x.symm)]
    · rw [Array.getElem?_eq_none (by rw [hs]; omega), Array.getElem?_eq_none (by rw [hs]; omega)]
/-- Of what lies in blocks outside S nothing has turned. -/
structure Frm (S : Nat → Prop) (w w' : World) : Prop where
  os : w'.os = w.os
  tape : w'.tape = w.tape
  output : w'.output = w.output
  size : w.heap.size ≤ w'.heap.size
  block : ∀ k, k < w.heap.size → ¬ S k → w'.heap[k]? = w.heap[k]?
theorem Frm.refl (S : Nat → Prop) (w : World) : Frm S w w := ⟨rfl, rfl, rfl, Nat.le_refl _, fun _ _ _ => rfl⟩
theorem Frm.trans {S : Nat → Prop} {a b c : World} (h : Frm S a b) (h2 : Frm S b c) : Frm S a c :=
  ⟨h2.os.trans h.os, h2.tape.trans h.tape, h2.output.trans h.output, Nat.le_trans h.size h2.size, fun k hk hs => (h2.block k (Nat.lt_of_lt_of_le hk h.size) hs).trans (h.block k hk hs)⟩
theorem Frm.of_below {S : Nat → Prop} {a b : World} (h : Below a.heap.size a b) : Frm S a b := ⟨h.os, h.tape, h.output, h.size, fun k hk _ => h.block k hk⟩
theorem Frm.below {B : Nat} {a b : World} (h : Frm (fun k => B ≤ k) a b) (hB : B ≤ a.heap.size) : Below B a b := ⟨h.os, h.tape, h.output, h.size, fun k hk => h.block k (by omega) (by omega)⟩
theorem Frm.set {S : Nat → Prop} {a b : World} (h : Frm S a b) {g : Nat} (hg : S g) (i : Nat) (v : Value) : Frm S a (b.setCell ⟨g, i, none⟩ v) :=
  h.trans ⟨rfl, rfl, rfl, by simp, fun k _ hs => by
    have : g ≠ k := fun e => hs (e ▸ hg)
    simp [World.setCell, Array.getElem?_modify, this]⟩
theorem Frm.alloc {S : Nat → Prop} {a b : World} (h : Frm S a b) (o : Obj) : Frm S a (b.alloc o) := h.trans (Frm.of_below ((Below.refl _ _).alloc (Nat.le_refl _) _))
theorem Frm.drewN {S : Nat → Prop} {a b : World} (h : Frm S a b) (n : Nat) : Frm S a (b.drewN n) := h.trans (Frm.of_below (below_drewN (Below.refl _ _) n))
theorem Blk.frm {S : Nat → Prop} {w w' : World} {g : Nat} {t : TypeId} {cs : Array Value} (h : Blk w g t cs) (hf : Frm S w w') (hs : ¬ S g) : Blk w' g t cs := (hf.block g h.lt hs).trans h

/-- What is kept at slot s, if anything. -/
def lookF (P : Nat → Option Nat) (F : Nat → Nat → Rc) (s : Nat) : Option Rc :=
  match P (s / 128) with
  | none => none
  | some _ => if (F (s / 128) (s % 128)).kept then some (F (s / 128) (s % 128)) else none
/-- The table whose block is bm: n slots, T what they keep, in blocks of S. -/
structure MemoIn (w : World) (S : Nat → Prop) (bm n : Nat) (asked found : Int) (gp : Nat) (P : Nat → Option Nat) (F : Nat → Nat → Rc) : Prop where
  head : Blk w bm 43 #[.int .i64 n, .slice (some ⟨gp, 0, none⟩) ((n - 1) / 128 + 1) ((n - 1) / 128 + 1), .int .i64 asked, .int .i64 found]
  ptrs : Blk w gp 52 (ptrRow P ((n - 1) / 128 + 1))
  page : ∀ i q, i < (n - 1) / 128 + 1 → P i = some q → Blk w q 56 (pageRow (F i)) ∧ S q ∧ q ≠ bm ∧ q ≠ gp
  inj : ∀ i j q, i < (n - 1) / 128 + 1 → j < (n - 1) / 128 + 1 → P i = some q → P j = some q → i = j
  ne : bm ≠ gp
  sm : S bm
  sp : S gp
theorem MemoIn.frm {w w' : World} {S S' : Nat → Prop} {bm n : Nat} {asked found : Int} {gp : Nat} {P : Nat → Option Nat} {F : Nat → Nat → Rc} (h : MemoIn w S bm n asked found gp P F) (hf : Frm S' w w') (hd : ∀ k, S k → ¬ S' k) : MemoIn w' S bm n asked found gp P F :=
  ⟨h.head.frm hf (hd _ h.sm), h.ptrs.frm hf (hd _ h.sp), fun i q hi hq => ⟨(h.page i q hi hq).1.frm hf (hd _ (h.page i q hi hq).2.1), (h.page i q hi hq).2⟩, h.inj, h.ne, h.sm, h.sp⟩
theorem MemoIn.below {w w' : World} {S : Nat → Prop} {bm n : Nat} {asked found : Int} {gp : Nat} {P : Nat → Option Nat} {F : Nat → Nat → Rc} (h : MemoIn w S bm n asked found gp P F) (hf : Below w.heap.size w w') : MemoIn w' S bm n asked found gp P F :=
  ⟨h.head.below hf h.head.lt, h.ptrs.below hf h.ptrs.lt, fun i q hi hq => ⟨(h.page i q hi hq).1.below hf (h.page i q hi hq).1.lt, (h.page i q hi hq).2⟩, h.inj, h.ne, h.sm, h.sp⟩

theorem info46 : (Try.prog.info? 52).map (fun i => (i.zero, i.size, i.bytes)) = some (some (.pointer none), 1, 8) := by kernel_rfl
theorem made_ptrs (n : Nat) : madeCells #[Value.pointer none] n = ptrRow (fun _ => none) n := by
  unfold madeCells ptrRow
  apply Array.ext
  · simp
  · intro i h1 h2
    simp
    rw [Nat.mod_one]; rfl
theorem run_mk (n : Nat) (hn : n ≤ 1000000000000) (w : World) : (Instr.makeSlice 41 (.int .i64 (n : Int)) (.int .i64 (n : Int))).run Try.prog w = .ok (.slice (some ⟨w.heap.size, 0, none⟩) n n) (w.alloc (.cells (ptrRow (fun _ => none) n) 52)) := by
  obtain ⟨i, hi, hz0, hz1, hz2⟩ := info_parts info46
  have h := run_make (P := Try.prog) w 41 52 i _ Try.underlying41 hi hz0 .i64 .i64 n n (by omega) (by omega) (by rw [hz2]; omega) (by omega)
  rw [hz1] at h
  simp only [Int.toNat_natCast, Nat.mul_one] at h
  rw [h]
  have e : (Value.pointer none).cells = #[Value.pointer none] := rfl
  rw [e, made_ptrs]
/-- The size of a table that is asked for with n. -/
def heldF (n : Int) : Nat := if n < 1 then 1 else if 65536 < n then 65536 else n.toNat
theorem heldF_bd (n : Int) : 1 ≤ heldF n ∧ heldF n ≤ 65536 := by unfold heldF; split; omega; split <;> omega

set_option maxHeartbeats 1000000 in
theorem memo_New (n : Int) (w : World) (S : Nat → Prop) (hS : ∀ k, w.heap.size ≤ k → k < w.heap.size + 2 → S k) :
    Calls Try.prog 8 #[.int .i64 n] w fun e w' => e = .returned (.pointer (some ⟨w.heap.size + 1, 0, none⟩)) ∧ MemoIn w' S (w.heap.size + 1) (heldF n) 0 0 w.heap.size (fun _ => none) (fun _ _ => Rc.zero) ∧ Below w.heap.size w w' ∧ w'.heap.size = w.heap.size + 2 := by
  have HS := Lib.hid hS
  clear hS
  have fin : ∀ (N : Nat) (w' : World), w' = (w.alloc (.cells (ptrRow (fun _ => none) ((N - 1) / 128 + 1)) 52)).alloc (.cells #[.int .i64 N, .slice (some ⟨w.heap.size, 0, none⟩) ((N - 1) / 128 + 1) ((N - 1) / 128 + 1), .int .i64 0, .int .i64 0] 43) →
      MemoIn w' S (w.heap.size + 1) N 0 0 w.heap.size (fun _ => none) (fun _ _ => Rc.zero) ∧ Below w.heap.size w w' ∧ w'.heap.size = w.heap.size + 2 := fun N w' hw => by
    subst hw
    have hB1 := Blk.new (w.alloc (.cells (ptrRow (fun _ => none) ((N - 1) / 128 + 1)) 52)) 43 #[.int .i64 N, .slice (some ⟨w.heap.size, 0, none⟩) ((N - 1) / 128 + 1) ((N - 1) / 128 + 1), .int .i64 0, .int .i64 0]
    rw [World.size_alloc] at hB1
    exact ⟨⟨hB1, (Blk.new w 52 _).alloc _, (fun i q _ hq => by cases hq), (fun i j q _ _ hq => by cases hq), by omega, HS.out _ (by omega) (by omega), HS.out _ (by omega) (by omega)⟩, ((Below.refl _ w).alloc (Nat.le_refl _) _).alloc (by simp) _, by simp⟩
  have HF := Lib.hid fin
  clear fin
  by_cases c1 : n < 1
  · have hh : heldF n = 1 := by unfold heldF; rw [if_pos c1]
    rw [hh]
    have hmk : (Instr.makeSlice 41 (.int .i64 1) (.int .i64 1)).run Try.prog w = .ok (.slice (some ⟨w.heap.size, 0, none⟩) 1 1) (w.alloc (.cells (ptrRow (fun _ => none) 1) 52)) := run_mk 1 (by omega) w
    clear hh
    go_enter Try.func8, Try.ntmps8
    go_wp2
    go_ret
    exact ⟨rfl, HF.out 1 _ rfl⟩
  · by_cases c2 : 65536 < n
    · have hh : heldF n = 65536 := by unfold heldF; rw [if_neg c1, if_pos c2]
      rw [hh]
      have hmk : (Instr.makeSlice 41 (.int .i64 512) (.int .i64 512)).run Try.prog w = .ok (.slice (some ⟨w.heap.size, 0, none⟩) 512 512) (w.alloc (.cells (ptrRow (fun _ => none) 512) 52)) := run_mk 512 (by omega) w
      have c3 : 1 ≤ n := by omega
      clear hh c1
      go_enter Try.func8, Try.ntmps8
      go_wp2
      go_ret
      exact ⟨rfl, HF.out 65536 _ rfl⟩
    · obtain ⟨N, rfl⟩ := Int.eq_ofNat_of_zero_le (show 0 ≤ n by omega)
      have hh : heldF (N : Int) = N := by unfold heldF; rw [if_neg c1, if_neg c2]; rfl
      rw [hh]
      have hmk := run_mk ((N - 1) / 128 + 1) (by omega) w
      rw [show (((N - 1) / 128 + 1 : Nat) : Int) = ((N : Int) - 1) / 128 + 1 by omega] at hmk
      have c3 : 1 ≤ (N : Int) := by omega
      have c4 : (N : Int) ≤ 65536 := by omega
      clear hh c1 c2
      go_enter Try.func8, Try.ntmps8
      go_wp2
      go_ret
      exact ⟨rfl, HF.out N _ rfl⟩
set_option maxHeartbeats 1000000 in
theorem memo_Size {w : World} {S : Nat → Prop} {bm n : Nat} {asked found : Int} {gp : Nat} {P : Nat → Option Nat} {F : Nat → Nat → Rc} (h : MemoIn w S bm n asked found gp P F) :
    Calls Try.prog 14 #[.pointer (some ⟨bm, 0, none⟩)] w fun e w' => e = .returned (.int .i64 n) ∧ w = w' := by
  have e0 := h.head.cell 0
  simp at e0
  clear h
  go_enter Try.func14, Try.ntmps14
  go_wp2
  go_ret
  exact ⟨rfl, rfl⟩
set_option maxHeartbeats 1000000 in
theorem memo_Count {w : World} {S : Nat → Prop} {bm n : Nat} {asked found : Int} {gp : Nat} {P : Nat → Option Nat} {F : Nat → Nat → Rc} (h : MemoIn w S bm n asked found gp P F) :
    Calls Try.prog 13 #[.pointer (some ⟨bm, 0, none⟩)] w fun e w' => e = .returned (.tuple #[.int .i64 asked, .int .i64 found]) ∧ Below w.heap.size w w' := by
  have e2 := h.head.cell 2
  have e3 := h.head.cell 3
  simp at e2 e3
  clear h
  go_enter Try.func13, Try.ntmps13
  go_wp2
  go_quiet (fail)
  go_wp2
  go_ret2
  exact ⟨rfl, below_drewN (Below.refl _ _) _⟩
theorem nil_Size (w : World) : Calls Try.prog 14 #[.pointer none] w fun e w' => e = .returned (.int .i64 0) ∧ w = w' := by
  go_enter Try.func14, Try.ntmps14
  go_wp2
  go_ret
  exact ⟨rfl, rfl⟩
theorem nil_Count (w : World) : Calls Try.prog 13 #[.pointer none] w fun e w' => e = .returned (.tuple #[.int .i64 0, .int .i64 0]) ∧ w = w' := by
  go_enter Try.func13, Try.ntmps13
  go_wp2
  go_ret2
  exact ⟨rfl, rfl⟩
theorem nil_Clear (w : World) : Calls Try.prog 10 #[.pointer none] w fun e w' => e = .returned (.tuple #[]) ∧ w = w' := by
  go_enter Try.func10, Try.ntmps10
  go_wp2
  refine bodyPost_ret (results_none rfl _ _ _) rfl ?_
  exact ⟨rfl, rfl⟩
theorem nil_Put (op a b c r : Int) (w : World) : Calls Try.prog 17 #[.pointer none, .int .i64 op, .int .i64 a, .int .i64 b, .int .i64 c, .int .i64 r] w fun e w' => e = .returned (.tuple #[]) ∧ w = w' := by
  go_enter Try.func17, Try.ntmps17
  go_wp2
  refine bodyPost_ret (results_none rfl _ _ _) rfl ?_
  exact ⟨rfl, rfl⟩
theorem nil_Get (op a b c : Int) (w : World) : Calls Try.prog 18 #[.pointer none, .int .i64 op, .int .i64 a, .int .i64 b, .int .i64 c] w fun e w' => e = .returned (.tuple #[.int .i64 0, .bool false]) ∧ w = w' := by
  go_enter Try.func18, Try.ntmps18
  go_wp2
  go_ret2
  exact ⟨rfl, rfl⟩
end Go.Proofs.Ytejmnjgmmjpenaa
