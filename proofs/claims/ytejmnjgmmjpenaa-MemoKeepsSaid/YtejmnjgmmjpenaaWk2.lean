/- MemoClears, over the contracts. -/
import Derived.Test.YtejmnjgmmjpenaaOpen
namespace Go.Proofs.Ytejmnjgmmjpenaa
open Go.RowKit

theorem RA.at {w : World} {B : Nat} {A : Option Addr} {l : List Act} (h : RA w B A l) {k : Nat} {x : Act} (hx : l[k]? = some x) : ∃ b off, A = some ⟨b, off, none⟩ ∧ b < B := by
  obtain ⟨b, off, h1, h2, _⟩ := h (by have := (List.getElem?_eq_some_iff.1 hx).1; omega)
  exact ⟨b, off, h1, h2⟩
theorem RA.cells {w : World} {B b off : Nat} {l : List Act} (h : RA w B (some ⟨b, off, none⟩) l) {k : Nat} {x : Act} (hx : l[k]? = some x) :
    w.cell? ⟨b, off + k * 6, none⟩ = some (.int .u8 x.kind) ∧ w.cell? ⟨b, off + k * 6 + 1, none⟩ = some (.int .i64 x.op) ∧ w.cell? ⟨b, off + k * 6 + 2, none⟩ = some (.int .i64 x.a) ∧
    w.cell? ⟨b, off + k * 6 + 3, none⟩ = some (.int .i64 x.b) ∧ w.cell? ⟨b, off + k * 6 + 4, none⟩ = some (.int .i64 x.c) ∧ w.cell? ⟨b, off + k * 6 + 5, none⟩ = some (.int .i64 x.r) := by
  obtain ⟨b2, off2, h1, _, h3⟩ := h (by have := (List.getElem?_eq_some_iff.1 hx).1; omega)
  simp only [Option.some.injEq, Addr.mk.injEq, and_true] at h1
  obtain ⟨rfl, rfl⟩ := h1
  refine ⟨h3 k x hx 0 (by omega), ?_, ?_, ?_, ?_, ?_⟩
  · rw [Nat.add_assoc]; exact h3 k x hx 1 (by omega)
  · rw [Nat.add_assoc]; exact h3 k x hx 2 (by omega)
  · rw [Nat.add_assoc]; exact h3 k x hx 3 (by omega)
  · rw [Nat.add_assoc]; exact h3 k x hx 4 (by omega)
  · rw [Nat.add_assoc]; exact h3 k x hx 5 (by omega)

/-- What the loops of MemoClears keep. -/
structure Two (w0 w : World) (Sm So : Nat → Prop) (b0 bm bo n : Nat) (A : Option Addr) (l : List Act) (x : Act) (am fm ao fo : Int) (T : Nat → Option Rc) : Prop where
  m : Memo w Sm bm n am fm T
  o : Memo w So bo n ao fo (fun _ => none)
  bel : Below w0.heap.size w0 w
  row : RA w w0.heap.size A l
  box : Blk w b0 27 (actRow x)
  size : bo < w.heap.size
/-- What the blocks of the two tables are. -/
structure Apart (w0 : World) (Sm So : Nat → Prop) (b0 bm bo : Nat) : Prop where
  dis : ∀ k, Sm k → ¬ So k
  gem : ∀ k, Sm k → w0.heap.size ≤ k
  geo : ∀ k, So k → w0.heap.size ≤ k
  nbm : ¬ Sm b0
  nbo : ¬ So b0
  all : ∀ k, bo < k → Sm k
section
variable {w0 w w' : World} {Sm So : Nat → Prop} {b0 bm bo n : Nat} {A : Option Addr} {l : List Act} {x : Act} {am fm ao fo : Int} {T : Nat → Option Rc}
theorem Two.stepM (h : Two w0 w Sm So b0 bm bo n A l x am fm ao fo T) (a : Apart w0 Sm So b0 bm bo) {am' fm' : Int} {T' : Nat → Option Rc} (hm : Memo w' Sm bm n am' fm' T') (hf : Frm Sm w w') : Two w0 w' Sm So b0 bm bo n A l x am' fm' ao fo T' :=
  have hb := hf.below2 a.gem h.bel.size
  ⟨hm, h.o.frm hf (fun k hk hs => a.dis k hs hk), h.bel.trans hb, h.row.below hb, h.box.frm hf a.nbm, Nat.lt_of_lt_of_le h.size hf.size⟩
theorem Two.stepO (h : Two w0 w Sm So b0 bm bo n A l x am fm ao fo T) (a : Apart w0 Sm So b0 bm bo) {ao' fo' : Int} (hm : Memo w' So bo n ao' fo' (fun _ => none)) (hf : Frm So w w') : Two w0 w' Sm So b0 bm bo n A l x am fm ao' fo' T :=
  have hb := hf.below2 a.geo h.bel.size
  ⟨h.m.frm hf (fun k hk hs => a.dis k hk hs), hm, h.bel.trans hb, h.row.below hb, h.box.frm hf a.nbo, Nat.lt_of_lt_of_le h.size hf.size⟩
end

set_option maxRecDepth 100000 in
set_option maxHeartbeats 4000000 in
theorem memoClears_walk (n : Int) (A : Option Addr) (c : Nat) (l : List Act) (x : Act) (w : World) (_hn : (Lit.int .i64 n).wf = true) (hRA : RA w w.heap.size A l) (_hlc : l.length ≤ c) (_hcm : c ≤ maxLen) :
    Calls Try.prog 5 #[.int .i64 n, .slice A l.length c, actV x] w fun e w' => e = .returned (.bool true) ∧ Below w.heap.size w w' := by
  have hb0 : Below w.heap.size w (w.alloc (.cells (actRow x) 27)) := (Below.refl _ _).alloc (Nat.le_refl _) _
  have hz0 : (w.alloc (.cells (actRow x) 27)).heap.size = w.heap.size + 1 := by simp
  have hx0 : Blk (w.alloc (.cells (actRow x) 27)) w.heap.size 27 (actRow x) := Blk.new _ _ _
  obtain ⟨Sm, hSm⟩ : ∃ S : Nat → Prop, S = fun k => w.heap.size + 1 ≤ k ∧ k ≠ w.heap.size + 3 ∧ k ≠ w.heap.size + 4 := ⟨_, rfl⟩
  obtain ⟨So, hSo⟩ : ∃ S : Nat → Prop, S = fun k => k = w.heap.size + 3 ∨ k = w.heap.size + 4 := ⟨_, rfl⟩
  have hAP : Apart w Sm So w.heap.size (w.heap.size + 2) (w.heap.size + 4) := by
    rw [hSm, hSo]
    refine ⟨?_, ?_, ?_, ?_, ?_, ?_⟩ <;> intros <;> simp_all <;> omega
  have hNm := memo_New2 n (w.alloc (.cells (actRow x) 27)) Sm (fun k h1 h2 => by rw [hSm]; simp at h1 h2; omega)
  rw [hz0, show w.heap.size + 1 + 1 = w.heap.size + 2 from rfl] at hNm
  have hNo : ∀ w2 : World, w2.heap.size = w.heap.size + 3 → Calls Try.prog 8 #[.int .i64 n] w2 fun e w' => e = .returned (.pointer (some ⟨w.heap.size + 4, 0, none⟩)) ∧ Memo w' So (w.heap.size + 4) (heldF n) 0 0 (fun _ => none) ∧ Below w2.heap.size w2 w' ∧ w'.heap.size = w.heap.size + 5 := fun w2 h2 => by
    have := memo_New2 n w2 So (fun k h3 h4 => by rw [hSo]; simp; omega)
    rw [h2] at this ⊢
    exact this
  obtain ⟨N, hN⟩ : ∃ N, heldF n = N := ⟨_, rfl⟩
  have hN2 := heldF_bd n
  rw [hN] at hNm hNo hN2
  obtain ⟨hN1, hN2⟩ := hN2
  have HNm := Lib.hid hNm
  have HNo := Lib.hid hNo
  have HAP := Lib.hid hAP
  have HZ := Lib.hid hz0
  have HB := Lib.hid hb0
  have HX := Lib.hid hx0
  have HR := Lib.hid hRA
  clear hb0 hx0 hz0 hRA _hn hSm hSo hNm hNo hAP hN
  obtain ⟨kind, op, a, b, cc, r⟩ := x
  unfold actV
  unfold actRow at HB HNm HZ ⊢
  dsimp only at HB HNm HZ ⊢
  by_cases hlen : 60 < l.length
  · have h1 : (60 : Int) < (l.length : Int) := by omega
    go_enter Try.func5, Try.ntmps5
    go_wp2_with fail
    refine (lives_any _).mono ?_; rintro e w3 ⟨rfl, hb3⟩
    have HB3 := Lib.hid (HB.out.trans (hb3.mono (by rw [HZ.out]; omega)))
    clear hb3 HB
    go_wp2
    go_ret
    exact ⟨rfl, HB3.out⟩
  · have h1 : (l.length : Int) ≤ 60 := by omega
    go_enter Try.func5, Try.ntmps5
    go_wp2_with fail
    refine HNm.out.mono ?_; rintro e w1 ⟨rfl, hm1, hb1, hz1⟩
    have hRow := (HR.out.below HB.out).below (hb1.mono (by omega))
    have HT1 := Lib.hid hm1
    have HR1 := Lib.hid hRow
    have HX1 := Lib.hid (HX.out.below hb1 (by omega))
    have HB1 := Lib.hid (HB.out.trans (hb1.mono (by omega)))
    clear hRow hm1 hb1 HX HB HR HNm
    go_wp2_with fail
    refine (HNo.out w1 hz1).mono ?_; rintro e w2 ⟨rfl, ho2, hb2, hz2⟩
    have hT : Two w w2 Sm So w.heap.size (w.heap.size + 2) (w.heap.size + 4) N A l ⟨kind, op, a, b, cc, r⟩ 0 0 0 0 (fun _ => none) :=
      ⟨HT1.out.below hb2, ho2, HB1.out.trans (hb2.mono HB1.out.size), HR1.out.below (hb2.mono HB1.out.size), HX1.out.below hb2 (by omega), by omega⟩
    have HT := Lib.hid hT
    clear hT HT1 HR1 HX1 HB1 ho2 hb2 hz2 hz1 HNo HZ
    go_wp2_with fail
    go_loopw [9] (fun i wr => ∃ k : Nat, k ≤ l.length ∧ i = .int .i64 k ∧ ∃ T, Two w wr Sm So w.heap.size (w.heap.size + 2) (w.heap.size + 4) N A l ⟨kind, op, a, b, cc, r⟩ 0 0 0 0 T) (fun i _ => l.length - (intOf i).toNat)
    case atStart => exact ⟨0, Nat.zero_le _, rfl, _, HT.out⟩
    case round =>
      obtain ⟨k, hk, rfl, T, hT⟩ := hrel
      have HT2 := Lib.hid hT
      clear hT HT
      by_cases hlt : k < l.length
      · have h1' : (k : Int) < (l.length : Int) := by omega
        obtain ⟨y, hy⟩ : ∃ y, l[k]? = some y := ⟨_, List.getElem?_eq_getElem hlt⟩
        obtain ⟨b, off, rfl, _⟩ := HT2.out.row.at hy
        obtain ⟨y0, y1, y2, y3, y4, y5⟩ := HT2.out.row.cells hy
        have HP := Lib.hid (law_put HT2.out.m y hN1 hN2 (fun k hk => HAP.out.all k (by have := HT2.out.size; omega)))
        go_wp2_with fail
        refine HP.out.mono ?_; rintro e w4 ⟨rfl, hM, hf⟩
        have HT3 := Lib.hid (HT2.out.stepM HAP.out hM hf)
        clear hM hf HP y0 y1 y2 y3 y4 y5
        go_wp2
        go_roundw
        case rel => exact ⟨k + 1, by omega, by go_num, _, HT3.out⟩
        case measure => simp [intOf]; omega
      · have h1' : ¬ (k : Int) < (l.length : Int) := by omega
        have HC := Lib.hid (memo_Clear HT2.out.m hN1 hN2)
        go_wp2_with fail
        refine HC.out.mono ?_; rintro e w5 ⟨rfl, hM, hf⟩
        have HT3 := Lib.hid (HT2.out.stepM HAP.out hM hf)
        clear hM hf HC HT2
        go_wp2_with fail
        go_loopw [10] (fun i wr => ∃ k : Nat, k ≤ l.length ∧ i = .int .i64 k ∧ Two w wr Sm So w.heap.size (w.heap.size + 2) (w.heap.size + 4) N A l ⟨kind, op, a, b, cc, r⟩ k 0 k 0 (fun _ => none)) (fun i _ => l.length - (intOf i).toNat)
        case atStart => exact ⟨0, Nat.zero_le _, rfl, HT3.out⟩
        case round =>
          obtain ⟨k, hk, rfl, hT⟩ := hrel
          have HT4 := Lib.hid hT
          clear hT HT3
          by_cases hlt : k < l.length
          · have h1' : (k : Int) < (l.length : Int) := by omega
            obtain ⟨y, hy⟩ : ∃ y, l[k]? = some y := ⟨_, List.getElem?_eq_getElem hlt⟩
            obtain ⟨b, off, rfl, _⟩ := HT4.out.row.at hy
            obtain ⟨y0, y1, y2, y3, y4, y5⟩ := HT4.out.row.cells hy
            have hG := law_get HT4.out.m y hN1 hN2 (by omega) (by omega) (by omega) (by omega)
            rw [get_none] at hG
            have HG := Lib.hid hG
            clear hG
            go_wp2_with fail
            refine HG.out.mono ?_; rintro e w6 ⟨he, hM, hf⟩
            have he2 : e = .returned (.tuple #[.int .i64 0, .bool false]) := he
            clear he
            subst he2
            have hT5 := HT4.out.stepM HAP.out hM hf
            obtain ⟨z0, z1, z2, z3, z4, z5⟩ := hT5.row.cells hy
            have hG := law_get hT5.o y hN1 hN2 (by omega) (by omega) (by omega) (by omega)
            rw [get_none] at hG
            have HT5 := Lib.hid hT5
            have HG2 := Lib.hid hG
            clear hG hT5 hM hf HG y0 y1 y2 y3 y4 y5 HT4
            go_wp2_with fail
            refine HG2.out.mono ?_; rintro e w7 ⟨he, hM, hf⟩
            have he2 : e = .returned (.tuple #[.int .i64 0, .bool false]) := he
            clear he
            subst he2
            have HT6 := Lib.hid (HT5.out.stepO HAP.out hM hf)
            clear hM hf HG2 z0 z1 z2 z3 z4 z5 HT5
            go_wp2
            go_roundw
            case rel => exact ⟨k + 1, by omega, by go_num, HT6.out⟩
            case measure => simp [intOf]; omega
          · have h1' : ¬ (k : Int) < (l.length : Int) := by omega
            have hP := law_put HT4.out.m ⟨kind, op, a, b, cc, r⟩ hN1 hN2 (fun k hk => HAP.out.all k (by have := HT4.out.size; omega))
            obtain ⟨y0, y1, y2, y3, y4, y5⟩ := act_cells HT4.out.box
            dsimp only at y0 y1 y2 y3 y4 y5
            obtain ⟨T2, hT2⟩ : ∃ T, putT (fun _ => none) (slotA ⟨kind, op, a, b, cc, r⟩ N) (recA ⟨kind, op, a, b, cc, r⟩) = T := ⟨_, rfl⟩
            have hg2 : getA T2 ⟨kind, op, a, b, cc, r⟩ N = some r := by rw [← hT2]; exact get_put _ _ _
            rw [hT2] at hP
            have HP := Lib.hid hP
            have HG2 := Lib.hid hg2
            clear hP hT2 hg2
            go_wp2_with fail
            refine HP.out.mono ?_; rintro e w6 ⟨rfl, hM, hf⟩
            have hT5 := HT4.out.stepM HAP.out hM hf
            obtain ⟨z0, z1, z2, z3, z4, z5⟩ := act_cells hT5.box
            dsimp only at z0 z1 z2 z3 z4 z5
            have hG := law_get hT5.m ⟨kind, op, a, b, cc, r⟩ hN1 hN2 (by omega) (by omega) (by omega) (by omega)
            rw [HG2.out] at hG
            have HT5 := Lib.hid hT5
            have HG := Lib.hid hG
            clear hG hT5 hM hf HP y0 y1 y2 y3 y4 y5 HT4
            go_wp2_with fail
            refine HG.out.mono ?_; rintro e w7 ⟨he, hM, hf⟩
            have he2 : e = .returned (.tuple #[.int .i64 r, .bool true]) := he
            clear he
            subst he2
            have hT6 := HT5.out.stepM HAP.out hM hf
            obtain ⟨_, _, _, _, _, y5⟩ := act_cells hT6.box
            dsimp only at y5
            have HB6 := Lib.hid hT6.bel
            clear hT6 hM hf HG z0 z1 z2 z3 z4 z5 HT5 HG2
            go_wp2_with fail
            refine (lives_any _).mono ?_; rintro e w8 ⟨rfl, hb8⟩
            have HB8 := Lib.hid (HB6.out.trans (hb8.mono HB6.out.size))
            clear hb8 HB6
            go_wp2
            go_ret
            exact ⟨rfl, HB8.out⟩
end Go.Proofs.Ytejmnjgmmjpenaa
