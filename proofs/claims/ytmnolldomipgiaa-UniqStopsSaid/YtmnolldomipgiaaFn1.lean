/- The table's functions; layer 10 (uniq). -/
import Derived.Test.YtmnolldomipgiaaBase
namespace Go.Proofs.Ytmnolldomipgiaa
open Go.RowKit Go.Maps

theorem ret_i {k : IntKind} {a b : Int} (h : a = b) : Ending.returned (.int k a) = .returned (.int k b) := by rw [h]
theorem ret_b {a b : Bool} (h : a = b) : Ending.returned (.bool a) = .returned (.bool b) := by rw [h]
/-- The table in block T, its map in block b. -/
structure Tb (w : World) (T b n : Nat) (M : List En) : Prop where
  t : Blk w T 50 #[.map (some b)]
  u : UT w b n M
  ne : T ≠ b
theorem Tb.below {w w' : World} {T b n M} (h : Tb w T b n M) (hb : Below w.heap.size w w') : Tb w' T b n M := ⟨h.t.below hb h.t.lt, h.u.below hb h.u.lt, h.ne⟩
theorem Tb.heap {w w' : World} {T b n M} {B : Nat} (h : Tb w T b n M) (hb : Below B w w') (hT : T < B) (hbB : b < B) : Tb w' T b n M := ⟨h.t.below hb hT, h.u.below hb hbB, h.ne⟩
theorem Tb.turn {w w' : World} {T b n m M M'} (h : Tb w T b n M) (hg : w.grownBy w' (some b)) (hu : UT w' b m M') : Tb w' T b m M' := ⟨(hg.block T h.t.lt (by simp [h.ne])).trans h.t, hu, h.ne⟩
theorem Tb.mono {w : World} {T b n m M} (h : Tb w T b n M) (hm : n ≤ m) : Tb w T b m M := ⟨h.t, h.u.mono hm, h.ne⟩
def ptr (T : Nat) : Value := .pointer (some ⟨T, 0, none⟩)
theorem make48 (w : World) : (Instr.makeMap 48 none).run Try.prog w = .ok (.map (some w.heap.size)) (w.alloc (.map #[] 0)) := by kernel_rfl
theorem e_New (w : World) : Calls Try.prog 6 #[] w fun e w' => e = .returned (ptr (w.heap.size + 1)) ∧ Tb w' (w.heap.size + 1) w.heap.size 0 [] ∧ Below w.heap.size w w' := by
  have m1 := make48
  have H1 := UT.made w
  have hb : Below (w.alloc (.map #[] 0)).heap.size (w.alloc (.map #[] 0)) ((w.alloc (.map #[] 0)).alloc (.cells #[.map (some w.heap.size)] 50)) := (Below.refl _ _).alloc (Nat.le_refl _) _
  have H2 := H1.below hb H1.lt
  have H3 := Blk.new (w.alloc (.map #[] 0)) 50 #[.map (some w.heap.size)]
  rw [World.size_alloc] at H3
  have HE : Hid (Tb ((w.alloc (.map #[] 0)).alloc (.cells #[.map (some w.heap.size)] 50)) (w.heap.size + 1) w.heap.size 0 [] ∧ Below w.heap.size w ((w.alloc (.map #[] 0)).alloc (.cells #[.map (some w.heap.size)] 50))) :=
    Lib.hid ⟨⟨H3, H2, by omega⟩, ((Below.refl _ _).alloc (Nat.le_refl _) _).alloc (by simp) _⟩
  clear H1 H2 H3 hb
  go_enter Try.func6, Try.ntmps6
  go_wp2
  go_ret
  exact ⟨rfl, HE.out⟩
section
variable {w : World} {T b n : Nat} {M : List En} (h : Tb w T b n M)
include h
theorem e_Len : Calls Try.prog 12 #[ptr T] w fun e w' => e = .returned (.int .i64 M.length) ∧ w = w' := by
  have t0 := h.t.cell 0
  have hl := h.u.len 3
  simp only [List.getElem?_toArray, List.getElem?_cons_zero] at t0
  clear h
  unfold ptr
  go_enter Try.func12, Try.ntmps12
  go_wp2
  go_ret
  exact ⟨rfl, rfl⟩
theorem e_Find {lo hi : Int} (h1 : In64 lo) (h2 : In64 hi) : Calls Try.prog 11 #[ptr T, .int .i64 lo, .int .i64 hi] w fun e w' => e = .returned (.tuple #[.int .i64 ((lookE M lo hi).getD 0), .bool (lookE M lo hi).isSome]) ∧ w = w' := by
  have t0 := h.t.cell 0
  have hl := h.u.look h1 h2
  simp only [List.getElem?_toArray, List.getElem?_cons_zero] at t0
  clear h
  generalize (lookE M lo hi).getD 0 = c at *
  generalize (lookE M lo hi).isSome = q at *
  unfold ptr
  go_enter Try.func11, Try.ntmps11
  go_wp2
  go_ret2
  exact ⟨rfl, rfl⟩
theorem e_Put_no {lo hi id : Int} (h1 : In64 lo) (h2 : In64 hi) (hs : (lookE M lo hi).isSome = true) : Calls Try.prog 15 #[ptr T, .int .i64 lo, .int .i64 hi, .int .i64 id] w fun e w' => e = .returned (.int .i64 6) ∧ w = w' := by
  have HF := Lib.hid (e_Find h h1 h2)
  rw [hs] at HF
  clear h hs
  generalize (lookE M lo hi).getD 0 = c at *
  unfold ptr at *
  go_enter Try.func15, Try.ntmps15
  go_wp2_with (go_at_call 11; refine HF.out.mono ?_; rintro r w' ⟨rfl, rfl⟩)
  go_ret
  exact ⟨rfl, rfl⟩
theorem e_Put {x : En} (hx : x.ok) (hno : lookE M x.lo x.hi = none) (hn : n < maxLen) {M' : List En} (hM : ∀ e, e ∈ M' ↔ e = x ∨ e ∈ M) (hl : M'.length = M.length + 1) :
    Calls Try.prog 15 #[ptr T, .int .i64 x.lo, .int .i64 x.hi, .int .i64 x.id] w fun e w' => e = .returned (.int .i64 0) ∧ Tb w' T b (n + 1) M' ∧ w.grownBy w' (some b) := by
  have HF := Lib.hid (e_Find h hx.lo hx.hi)
  rw [hno] at HF
  have t0 := h.t.cell 0
  obtain ⟨w1, hput, hu, hg⟩ := h.u.put hx hno hn hM hl
  have HE : Hid (Tb w1 T b (n + 1) M' ∧ w.grownBy w1 (some b)) := Lib.hid ⟨h.turn hg hu, hg⟩
  simp only [List.getElem?_toArray, List.getElem?_cons_zero] at t0
  simp only [Option.getD_none, Option.isSome_none] at HF
  clear h hno hM hl hn hu hg hx
  unfold ptr at *
  go_enter Try.func15, Try.ntmps15
  go_wp2_with (go_at_call 11; refine HF.out.mono ?_; rintro r w' ⟨rfl, rfl⟩)
  go_ret
  exact ⟨rfl, HE.out⟩
theorem e_Cut_no {lo hi : Int} (h1 : In64 lo) (h2 : In64 hi) (hs : lookE M lo hi = none) : Calls Try.prog 16 #[ptr T, .int .i64 lo, .int .i64 hi] w fun e w' => e = .returned (.int .i64 5) ∧ w = w' := by
  have HF := Lib.hid (e_Find h h1 h2)
  rw [hs] at HF
  simp only [Option.getD_none, Option.isSome_none] at HF
  clear h hs
  unfold ptr at *
  go_enter Try.func16, Try.ntmps16
  go_wp2_with (go_at_call 11; refine HF.out.mono ?_; rintro r w' ⟨rfl, rfl⟩)
  go_ret
  exact ⟨rfl, rfl⟩
theorem e_Cut {x : En} (hx : x ∈ M) {M' : List En} (hM : ∀ e, e ∈ M' ↔ e ≠ x ∧ e ∈ M) (hl : M'.length + 1 = M.length) :
    Calls Try.prog 16 #[ptr T, .int .i64 x.lo, .int .i64 x.hi] w fun e w' => e = .returned (.int .i64 0) ∧ Tb w' T b n M' ∧ w.grownBy w' (some b) := by
  have hxo := h.u.ok hx
  have HF := Lib.hid (e_Find h hxo.lo hxo.hi)
  have hq : (lookE M x.lo x.hi).isSome = true := by
    cases e : lookE M x.lo x.hi with
    | some i => rfl
    | none => exact absurd hx (lookE_none e x.id)
  rw [hq] at HF
  generalize (lookE M x.lo x.hi).getD 0 = c at *
  have t0 := h.t.cell 0
  obtain ⟨w1, hput, hu, hg⟩ := h.u.cut hx hM hl 0
  have HE : Hid (Tb w1 T b n M' ∧ w.grownBy w1 (some b)) := Lib.hid ⟨h.turn hg hu, hg⟩
  simp only [List.getElem?_toArray, List.getElem?_cons_zero] at t0
  clear h hM hl hu hg hx hq hxo
  unfold ptr at *
  go_enter Try.func16, Try.ntmps16
  go_wp2_with (go_at_call 11; refine HF.out.mono ?_; rintro r w' ⟨rfl, rfl⟩)
  go_ret
  exact ⟨rfl, HE.out⟩
theorem e_Clear : Calls Try.prog 17 #[ptr T] w fun e w' => e = .returned (.tuple #[]) ∧ Tb w' T b 0 [] ∧ w.grownBy w' (some b) := by
  have t0 := h.t.cell 0
  obtain ⟨w1, hput, hu, hg⟩ := h.u.clear 0
  have HE : Hid (Tb w1 T b 0 [] ∧ w.grownBy w1 (some b)) := Lib.hid ⟨h.turn hg hu, hg⟩
  simp only [List.getElem?_toArray, List.getElem?_cons_zero] at t0
  clear h hu hg
  unfold ptr
  go_enter Try.func17, Try.ntmps17
  go_wp2
  first | go_end0 | skip
  exact ⟨rfl, HE.out⟩
end
/-! A nil table. -/
theorem n_Len (w : World) : Calls Try.prog 12 #[.pointer none] w fun e w' => e = .returned (.int .i64 0) ∧ w = w' := by
  go_enter Try.func12, Try.ntmps12
  go_wp2
  go_ret
  exact ⟨rfl, rfl⟩
theorem n_Find (lo hi : Int) (w : World) : Calls Try.prog 11 #[.pointer none, .int .i64 lo, .int .i64 hi] w fun e w' => e = .returned (.tuple #[.int .i64 0, .bool false]) ∧ w = w' := by
  go_enter Try.func11, Try.ntmps11
  go_wp2
  go_ret2
  exact ⟨rfl, rfl⟩
theorem n_Put (lo hi id : Int) (w : World) : Calls Try.prog 15 #[.pointer none, .int .i64 lo, .int .i64 hi, .int .i64 id] w fun e w' => e = .returned (.int .i64 5) ∧ w = w' := by
  go_enter Try.func15, Try.ntmps15
  go_wp2
  go_ret
  exact ⟨rfl, rfl⟩
theorem n_Cut (lo hi : Int) (w : World) : Calls Try.prog 16 #[.pointer none, .int .i64 lo, .int .i64 hi] w fun e w' => e = .returned (.int .i64 5) ∧ w = w' := by
  have HF := Lib.hid (n_Find lo hi w)
  go_enter Try.func16, Try.ntmps16
  go_wp2_with (go_at_call 11; refine HF.out.mono ?_; rintro r w' ⟨rfl, rfl⟩)
  go_ret
  exact ⟨rfl, rfl⟩
theorem n_Clear (w : World) : Calls Try.prog 17 #[.pointer none] w fun e w' => e = .returned (.tuple #[]) ∧ w = w' := by
  go_enter Try.func17, Try.ntmps17
  go_wp2
  first | go_end0 | skip
  exact ⟨rfl, rfl⟩
end Go.Proofs.Ytmnolldomipgiaa
