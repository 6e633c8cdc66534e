/- The iterators All and below of layer 2 (bits), over the translation. -/
import Derived.Test.YtakhdlidikbnjaaOfb
import Derived.Test.YtakhdlidikbnjaaIter
import Derived.Shelf.Abstract
import Derived.Shelf.RegionOpen
import Derived.OwnWalkIn
import Derived.TacticsInMore
import Derived.LoopNIn
import Derived.LoopIn
namespace Go.Proofs.Ytakhdlidikbnjaa
open Go.RowKit Go.Shelf
theorem wide_fn (f : FuncId) : Fence.wide.fn f = True := rfl
theorem wide_depth : Fence.wide.depth = none := rfl
attribute [local go_sem] Oper.semAt_some wide_fn wide_depth

def tabN (m : Int) : Nat := if m < 0 then 0 else if 12 < m then 12 else m.toNat
theorem tabN_le (m : Int) : tabN m ≤ 12 := by unfold tabN; split; omega; split <;> omega
theorem tabN_eq (m : Int) : (tabN m : Int) = min (max m 0) 12 := by unfold tabN; split; omega; split <;> omega
theorem bits_All (m : Int) (w : World) : Calls Try.prog 40 #[.int .i64 m] w fun e w' =>
    e = .returned (.func (.func 52) #[] #[.pointer (some ⟨w.heap.size, 0, none⟩)]) ∧ w.alloc (.cells #[.int .i64 (tabN m)] 3) = w' := by
  rw [tabN_eq]
  go_enter Try.func40, Try.ntmps40
  go_wp2
  all_goals
    go_ret
    refine ⟨rfl, ?_⟩
    first | (rw [show min (max m 0) 12 = (0 : Int) by omega]) | (rw [show min (max m 0) 12 = (12 : Int) by omega]) | (rw [show min (max m 0) 12 = m by omega])
section
variable {w : World} {S : Nat → Prop}
set_option maxRecDepth 100000 in
set_option maxHeartbeats 1000000 in
theorem iter_below {E Bc : Nat} (hE : E ≤ 4096) (hB : Blk w Bc 75 #[.int .u64 (E : Int)]) (hSB : S Bc) (hSl : ∀ b, S b → b < w.heap.size) :
    Iter Try.prog 66 #[.pointer (some ⟨Bc, 0, none⟩)] (fun _ => false) S E (fun k x _ => x = #[.int .u64 (k : Int)]) w := by
  intro l J Jx W hW hJ hJx hY h0
  have HJ0 := Lib.hid (h0 W (Below.refl _ _))
  have hBW : Blk W Bc 75 #[.int .u64 (E : Int)] := ((Kept.below hW hSl) _ hSB).trans hB
  have e0 := hBW.cell 0
  simp at e0
  have HY := Lib.hid hY
  have hE' : (E : Int) ≤ 4096 := by omega
  clear hB hJ hJx hY h0 hBW hW hSl hSB
  refine callsIn_of_wp Try.func66 rfl trivial ?_ rfl
  simp only [Try.ntmps66, List.size_toArray, List.length_cons, List.length_nil, Nat.reduceAdd, Nat.reduceSub, Array.replicate_succ, Array.replicate_zero, List.push_toArray, List.append_toArray, List.nil_append, List.cons_append]
  gi_wp2
  gi_loopw [5] (fun i wr => ∃ k : Nat, k ≤ E ∧ i = .int .u64 (k : Int) ∧ J k wr) (fun i _ => E - (intOf i).toNat)
  case atStart => exact ⟨0, Nat.zero_le _, rfl, HJ0.out⟩
  case round =>
    obtain ⟨k, hk, rfl, hJk⟩ := hrel
    have HJ := Lib.hid hJk
    clear hJk e0 HJ0
    by_cases hlt : k < E
    · have h1 : (k : Int) < (E : Int) := by omega
      obtain ⟨fn, tmps, assign, body, hy, hR⟩ := HY.out k _ wr hlt rfl HJ.out
      have HR := Lib.hid hR
      clear hR
      gi_wp2
      refine HR.out.mono ?_
      rintro e W3 (⟨rfl, hJ3, -, -⟩ | ⟨rfl, hX3, -⟩)
      · have HJ3 := Lib.hid hJ3
        clear HR hy hJ3 HJ
        gi_wp2
        exact ⟨⟨k + 1, by omega, by go_num, HJ3.out⟩, by simp [intOf]; omega⟩
      · have HX := Lib.hid hX3
        clear HR hy hX3 HJ
        gi_wp2
        refine bodyPost_ret (results_none rfl _ _ _) rfl ?_
        exact ⟨⟨_, rfl⟩, .inr ⟨k, hlt, HX.out⟩⟩
    · have HE := Lib.hid (show k = E by omega)
      gi_wp2
      go_end0
      have h5 := HJ.out
      rw [HE.out] at h5
      exact ⟨⟨_, rfl⟩, .inl h5⟩
theorem run_below (E : Int) (w : World) : Calls Try.prog 53 #[.int .u64 E] w fun e w' => e = .returned (.func (.func 66) #[] #[.pointer (some ⟨w.heap.size, 0, none⟩)]) ∧ w.alloc (.cells #[.int .u64 E] 75) = w' := by
  go_enter Try.func53, Try.ntmps53
  go_wp2
  go_ret
  exact ⟨rfl, rfl⟩
theorem grownBy_drew (W : World) : W.grownBy W.drew none := ⟨rfl, rfl, rfl, Nat.le_refl _, fun _ _ _ => rfl⟩
theorem ownFrom_blk {β : Type} {B g : Nat} {t : TypeId} {cs : Array Value} (h : g < B) : OwnFrom B (fun (_ : β) W => Blk W g t cs) :=
  fun _ X Y row hs hg hr => (hg.block g (Blk.lt hs) (fun e => by have := (hr g e.symm).1; omega)).trans hs
theorem ownFrom_kept {β : Type} {B : Nat} {S : Nat → Prop} {V : World} (hS : ∀ b, S b → b < B) (hV : ∀ b, S b → b < V.heap.size) : OwnFrom B (fun (_ : β) W => V.heap.size ≤ W.heap.size ∧ Kept S V W) :=
  fun _ X Y row hs hg hr => ⟨Nat.le_trans hs.1 hg.size, fun b hb => (hg.block b (Nat.lt_of_lt_of_le (hV b hb) hs.1) (fun e => by have := (hr b e.symm).1; have := hS b hb; omega)).trans (hs.2 b hb)⟩
def PtA (t : TypeId) : Bool := t == 75 || t == 71
def rowA (K k : Nat) (x : Array Value) (W : World) : Prop := ∃ g, x = #[.slice (some ⟨g, 0, none⟩) K K] ∧ Blk W g 4 (boolRow (ofL k K))
set_option maxRecDepth 100000 in
set_option maxHeartbeats 1000000 in
theorem iter_all {K Bc : Nat} (hK : K ≤ 12) (hB : Blk w Bc 3 #[.int .i64 (K : Int)]) (hSB : S Bc) (hSl : ∀ b, S b → b < w.heap.size) :
    Iter Try.prog 52 #[.pointer (some ⟨Bc, 0, none⟩)] PtA S (2 ^ K) (rowA K) w := by
  intro l J Jx W hW hJ hJx hY h0
  have hp : (2 : Nat) ^ K ≤ 4096 := by have := Nat.pow_le_pow_right (n := 2) (by omega) hK; simpa using this
  have hKW : Kept S w W := Kept.below hW hSl
  have hBW : Blk W Bc 3 #[.int .i64 (K : Int)] := (hKW _ hSB).trans hB
  have hSW : ∀ b, S b → b < W.heap.size := fun b hb => Nat.lt_of_lt_of_le (hSl b hb) hW.size
  have hbc := hBW.lt
  obtain ⟨E, hE⟩ : ∃ E, (2 : Nat) ^ K = E := ⟨_, rfl⟩
  rw [hE] at hp hY ⊢
  obtain ⟨W0, hW0⟩ : ∃ W0, (W.alloc (.cells #[.func (.yield l) #[] #[]] 71)).alloc (.cells #[.int .u64 (E : Int)] 75) = W0 := ⟨_, rfl⟩
  have e0 : (W.alloc (.cells #[.func (.yield l) #[] #[]] 71)).cell? ⟨Bc, 0, none⟩ = some (.int .i64 (K : Int)) := by
    have hal : Below W.heap.size W (W.alloc (.cells #[.func (.yield l) #[] #[]] 71)) := (Below.refl _ _).alloc (Nat.le_refl _) _
    have := (hBW.below hal hbc).cell 0
    simpa using this
  have hK' : (K : Int) ≤ 12 := by omega
  have hK0 : (0 : Int) ≤ (K : Int) := by omega
  have hwr : IntKind.u64.wrap ((2 : Int) ^ K) = (E : Int) := by
    rw [show (2 : Int) ^ K = (E : Int) by rw [← hE]; simp]
    exact IntWalk.u64_in _ (by omega)
  have hz0 : W0.heap.size = W.heap.size + 2 := by rw [← hW0]; simp
  have hb0 : Below W.heap.size W W0 := by rw [← hW0]; exact ((Below.refl _ _).alloc (Nat.le_refl _) _).alloc (by simp) _
  have hBy : Blk W0 W.heap.size 71 #[.func (.yield l) #[] #[]] := by
    rw [← hW0]
    exact (Blk.new _ _ _).below (B := W.heap.size + 1) ((Below.refl _ _).alloc (by simp) _) (by omega)
  have hBt : Blk W0 (W.heap.size + 1) 75 #[.int .u64 (E : Int)] := by
    rw [← hW0]
    have h1 := Blk.new (W.alloc (.cells #[.func (.yield l) #[] #[]] 71)) 75 #[.int .u64 (E : Int)]
    rw [World.size_alloc] at h1
    exact h1
  have hit := iter_below (S := fun b => S b ∨ b = W.heap.size + 1) hp hBt (.inr rfl) (fun b hb => by
    rcases hb with hb | rfl
    · have := hSW b hb; omega
    · omega)
  have HW0 := Lib.hid hW0
  have HY := Lib.hid hY
  have HI := Lib.hid hit
  have HBy := Lib.hid hBy
  have HBt := Lib.hid hBt
  have HZ := Lib.hid hz0
  have HB0 := Lib.hid hb0
  have HJ := Lib.hid hJ
  have HJx := Lib.hid hJx
  have H0 := Lib.hid h0
  have HSW := Lib.hid hSW
  have HBW := Lib.hid hBW
  have HSB := Lib.hid hSB
  have HP := Lib.hid hp
  refine callsIn_of_wp_marks Try.func52 rfl trivial ?_ rfl
  simp only [Try.ntmps52, List.size_toArray, List.length_cons, List.length_nil, Nat.reduceAdd, Nat.reduceSub, Array.replicate_succ, Array.replicate_zero, List.push_toArray, List.append_toArray, List.nil_append, List.cons_append]
  clear hY hJ hJx h0 hW hB hSl hSB hKW hSW hBW hW0 hz0 hb0 hBy hBt hit hE hp
  gi_wp2_with (gi_at_call 53; refine (callsIn_wide.2 (run_below _ _)).mono ?_; rintro e w1 ⟨rfl, rfl⟩)
  rw [HW0.out]
  clear hwr
  refine wp_range (gf := 66) (lb := #[.pointer (some ⟨W.heap.size + 1, 0, none⟩)]) rfl (enters_of Try.func66 (by kernel_rfl) rfl) HI.out (Below.refl _ _) ?hSl ?hps
    (fun k V => ((J k V ∧ Blk V W.heap.size 71 #[.func (.yield l) #[] #[]]) ∧ Blk V (W.heap.size + 1) 75 #[.int .u64 (E : Int)]) ∧ (W.heap.size ≤ V.heap.size ∧ Kept S W V))
    (fun c k V => c = .ret ∧ Jx k V)
    ?hI ?hIx ?h0
    (fun k a' _ => a' = { tmps := #[.func (.yield l) #[] #[], .pointer (some ⟨Bc, 0, none⟩), .pointer (some ⟨W.heap.size, 0, none⟩), .int .u64 (k : Int), .int .i64 (K : Int), .int .u64 (E : Int),
          .func (.func 66) #[] #[.pointer (some ⟨W.heap.size + 1, 0, none⟩)], .int .u64 (k : Int), undef, undef, undef, undef, undef, undef], defers := [] })
    (fun k a' _ X Y row hs hg hr => hs) ?assign ?body ?done ?stop
  case hSl =>
    rintro b (hb | rfl)
    · have := HSW.out b hb; rw [HZ.out]; omega
    · rw [HZ.out]; omega
  case hps => rintro k x V rfl; rfl
  case hI =>
    rw [HZ.out]
    exact OwnFrom.and (OwnFrom.and (OwnFrom.and (OwnFrom.mono HJ.out (by omega)) (ownFrom_blk (by omega))) (ownFrom_blk (by omega))) (ownFrom_kept (fun b hb => by have := HSW.out b hb; omega) HSW.out)
  case hIx =>
    intro c
    rw [HZ.out]
    exact OwnFrom.and (ownFrom_pure _ _) (OwnFrom.mono HJx.out (by omega))
  case h0 =>
    intro V hV
    have hV2 : Below W.heap.size W V := HB0.out.trans (hV.mono (by rw [HZ.out]; omega))
    exact ⟨⟨⟨H0.out V hV2, HBy.out.below hV HBy.out.lt⟩, HBt.out.below hV HBt.out.lt⟩, hV2.size, Kept.below hV2 HSW.out⟩
  case assign =>
    rintro l2 k x V K' hk rfl hi hz hK'
    have HK := Lib.hid (hK' _ V (KeepsP.refl _ _ _) (Kept.refl _ _) hi rfl)
    clear hi hK'
    gi_wp2
    exact HK.out
  case body =>
    rintro l2 k a' V hk ⟨⟨⟨hJ, hBy⟩, hBt⟩, hz, hKe⟩ rfl hzz
    have hmx : Try.prog.follows .mixedOrders = true := by kernel_rfl
    have HJJ := Lib.hid hJ
    have HBy2 := Lib.hid hBy
    have HBt2 := Lib.hid hBt
    have HK2 := Lib.hid hKe
    have hBc : Blk V Bc 3 #[.int .i64 (K : Int)] := (hKe _ HSB.out).trans HBW.out
    have HBc := Lib.hid hBc
    have HVz := Lib.hid hz
    have hlt : k < E := hk
    have c47 := hBy.cell 0
    have c3 := hBc.cell 0
    simp at c47 c3
    have hOf : Calls Try.prog 54 #[.int .u64 (k : Int), .int .i64 (K : Int)] V.drew fun e W' => ∃ g, e = .returned (.slice (some ⟨g, 0, none⟩) K K) ∧ Blk W' g 4 (boolRow (ofL k K)) ∧ Below V.heap.size V W' := by
      have hcl : clampN (K : Int) = K := by unfold clampN; rw [if_neg (by omega), if_neg (by omega)]; omega
      have h5 := bits_Of k (K : Int) V.drew (by have := HP.out; omega)
      rw [hcl] at h5
      exact h5.mono fun e W' ⟨g, q1, q2, _, q4⟩ => ⟨g, q1, q2, ((Below.refl V.heap.size V).drew).trans q4⟩
    have HOf := Lib.hid hOf
    have HAf : Hid (∀ w3 g, Blk w3 g 4 (boolRow (ofL k K)) → Below V.heap.size V w3 → w3.cell? ⟨W.heap.size, 0, none⟩ = some (.func (.yield l) #[] #[]) ∧
        YieldAt Fence.wide 0 Try.prog l #[.slice (some ⟨g, 0, none⟩) K K] w3 fun e W' => ∃ b, e = .returned (.bool b) ∧ KeepsP (fun _ => false) W0.heap.size V W' ∧ (b = true → Kept (fun b => S b ∨ b = W.heap.size + 1) V W' ∧
          (((J (k + 1) W' ∧ Blk W' W.heap.size 71 #[.func (.yield l) #[] #[]]) ∧ Blk W' (W.heap.size + 1) 75 #[.int .u64 (E : Int)]) ∧ (W.heap.size ≤ W'.heap.size ∧ Kept S W W'))) ∧ (b = false → Jx (k + 1) W')) := Lib.hid (by
      intro w3 g hB3 hb3
      have hg3 : V.grownBy w3 none := ⟨hb3.os, hb3.tape, hb3.output, hb3.size, fun q hq _ => hb3.block q hq⟩
      have hJ3 : J k w3 := HJ.out k V w3 none HJJ.out hg3 (fun r e => by cases e)
      have hBy3 := HBy2.out.below hb3 HBy2.out.lt
      have hBt3 := HBt2.out.below hb3 HBt2.out.lt
      refine ⟨by have := hBy3.cell 0; simpa using this, ?_⟩
      refine (HY.out k _ w3 hlt ⟨g, rfl, hB3⟩ hJ3).mono ?_
      rintro e W' (⟨rfl, q1, q2, q3⟩ | ⟨rfl, q1, q2⟩)
      · have hB4 : Blk W' W.heap.size 71 #[.func (.yield l) #[] #[]] := q2.same _ _ (Nat.le_refl _) hBy3 rfl
        have hT4 : Blk W' (W.heap.size + 1) 75 #[.int .u64 (E : Int)] := q2.same _ _ (by omega) hBt3 rfl
        refine ⟨true, rfl, (KeepsP.below hb3).trans (q2.mono (by rw [HZ.out]; omega) (fun _ h => by cases h)), fun _ => ⟨fun b hb => ?_, ⟨⟨q1, hB4⟩, hT4⟩, ?_, ?_⟩, fun h => by cases h⟩
        · rcases hb with hb | rfl
          · exact (q3 b hb).trans (hb3.block b (by have := HSW.out b hb; have := HVz.out; omega))
          · exact Eq.trans hT4 (Eq.symm HBt2.out)
        · have := q2.size; have := hb3.size; have := HVz.out; omega
        · exact HK2.out.trans ((Kept.below hb3 (fun b hb => by have := HSW.out b hb; have := HVz.out; omega)).trans q3)
      · exact ⟨false, rfl, (KeepsP.below hb3).trans (q2.mono (by rw [HZ.out]; omega) (fun _ h => by cases h)), (fun h => by cases h), fun _ => q1⟩)
    clear hOf
    clear hJ hBy hBt hKe hBc hz
    gi_wp2_with fail
    gi_region_with_o (first | (gi_at_call 54; refine (CallsIn.inRound l2 (callsIn_wide.2 HOf.out)).mono ?_; rintro e w3 ⟨g, rfl, hB3, hb3⟩; obtain ⟨z47, fn, tmps, assign, body, hyy, hR⟩ := HAf.out w3 g hB3 hb3; have HR := Lib.hid hR; clear hR hB3 hb3) | (refine (RoundIn.inRoundR l2 HR.out).mono ?_; rintro e W3 ⟨b, rfl, hres⟩; have HRes := Lib.hid hres; clear hres HR hyy))
    all_goals
      obtain ⟨r1, r2, r3⟩ := HRes.out
      have HF := Lib.hid r1
      rcases b with _ | _
      · have HX := Lib.hid (r3 rfl)
        clear r1 r2 r3 HRes z47 c47 c3
        gi_wp2
        exact ⟨HF.out, rfl, HX.out⟩
      · have HS2 := Lib.hid (r2 rfl).1
        have HI2 := Lib.hid (r2 rfl).2
        clear r1 r2 r3 HRes z47 c47 c3
        gi_wp2
        exact ⟨HF.out, HS2.out, HI2.out⟩
  case done =>
    rintro D V hD ⟨⟨⟨hJ, hBy⟩, hBt⟩, hz, hKe⟩ hDf
    have HF := Lib.hid (HJ.out.putObj (.deferred none) hJ (by rw [HZ.out] at hD; omega) hDf rfl)
    clear hJ hBy hBt hKe
    gi_wp2
    refine ⟨by simp, .inl ⟨_, _, rfl, run_takeDeferred hDf, ?_⟩⟩
    exact ⟨_, results_none rfl _ _ _, ⟨_, rfl⟩, .inl HF.out⟩
  case stop =>
    rintro D c k V hD hk ⟨rfl, hX⟩ hDf
    have HF := Lib.hid (HJx.out.putObj (.deferred none) hX (by rw [HZ.out] at hD; omega) hDf rfl)
    clear hX
    gi_wp2
    refine ⟨by simp, .inl ⟨_, _, rfl, run_takeDeferred hDf, ?_⟩⟩
    exact ⟨_, results_none rfl _ _ _, ⟨_, rfl⟩, .inr ⟨k, hk, HF.out⟩⟩
end
end Go.Proofs.Ytakhdlidikbnjaa
