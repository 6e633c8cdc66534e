/- strings.Lines as an iterator; layer 28 (events). -/
import Derived.Test.YtfppplalgdopjaaDoorIc
import Derived.Shelf.Abstract
import Derived.Shelf.RegionOpen
import Derived.OwnWalkIn
import Derived.TacticsInMore
import Derived.LoopNIn
import Derived.LoopIn
namespace Go.Proofs.YtfppplalgdopjaaDoor
open Go.RowKit Go.Shelf
theorem wide_fn (f : FuncId) : Fence.wide.fn f = True := rfl
theorem wide_depth : Fence.wide.depth = none := rfl
attribute [local go_sem] Oper.semAt_some wide_fn wide_depth

theorem grownBy_drew (W : World) : W.grownBy W.drew none := ⟨rfl, rfl, rfl, Nat.le_refl _, fun _ _ _ => rfl⟩
def ixB (t : ByteArray) : Int := Lib.indexByte t.data.toList 10
def lineR (t : ByteArray) : ByteArray := if 0 ≤ ixB t then t.extract 0 (ixB t + 1).toNat else t
def cutR (t : ByteArray) : ByteArray := if 0 ≤ ixB t then t.extract (ixB t + 1).toNat t.size else ⟨#[]⟩
def szC (g0 : Nat) (w : World) : Nat := match w.cell? ⟨g0, 0, none⟩ with
  | some (.string s) => s.size
  | _ => 0
theorem run_Lines (s : ByteArray) (w : World) : Calls Tryd.prog 28 #[.string s] w fun e w' =>
    e = .returned (.func (.func 42) #[] #[.pointer (some ⟨w.heap.size, 0, none⟩)]) ∧ w.alloc (.cells #[.string s] 9) = w' := by
  go_enter Tryd.func28, Tryd.ntmps28
  go_wp2
  go_ret
  exact ⟨rfl, rfl⟩
section
variable {w : World} {S : Nat → Prop}
set_option maxRecDepth 100000 in
set_option maxHeartbeats 4000000 in
theorem iter_lines {N g0 : Nat} (rs : Nat → ByteArray) (hrs : ∀ k, k < N → 0 < (rs k).size ∧ (rs k).size ≤ 1000000 ∧ rs (k + 1) = cutR (rs k) ∧ ixB (rs k) < (rs k).size) (hN : (rs N).size = 0) (hB : Blk w g0 9 #[.string (rs 0)]) (hSB : S g0) (hSl : ∀ b, S b → b < w.heap.size) :
    Iter Tryd.prog g0 42 #[.pointer (some ⟨g0, 0, none⟩)] (fun _ => false) S N (fun k x _ => x = #[.string (lineR (rs k))]) w := by
  intro l J Jx W hW hJ hJx hY h0 hJm hJxm
  have hBW : Blk W g0 9 #[.string (rs 0)] := ((Kept.below hW hSl) _ hSB).trans hB
  have HJ0 := Lib.hid (h0 W (Below.refl _ _))
  have HBW := Lib.hid hBW
  have HY := Lib.hid hY
  have HM := Lib.hid hJm
  have HXM := Lib.hid hJxm
  have HRS := Lib.hid hrs
  have HNN := Lib.hid hN
  have HSB := Lib.hid hSB
  have HJX := Lib.hid hJx
  have HJJ := Lib.hid hJ
  clear hB hJ hJx hY h0 hBW hW hSl hSB hJm hJxm hrs hN
  refine callsIn_of_wp Tryd.func42 rfl trivial ?_ rfl
  simp only [Tryd.ntmps42, List.size_toArray, List.length_cons, List.length_nil, Nat.reduceAdd, Nat.reduceSub, Array.replicate_succ, Array.replicate_zero, List.push_toArray, List.append_toArray, List.nil_append, List.cons_append]
  gi_wp2
  gi_loopw [3] (fun v wr => ∃ k : Nat, k ≤ N ∧ Hid (Blk wr g0 9 #[.string (rs k)]) ∧ Hid (J k wr)) (fun v wr => szC g0 wr)
  case atStart => exact ⟨0, Nat.zero_le _, HBW, HJ0⟩
  case round =>
    obtain ⟨k, hk, HK, HJk⟩ := hrel
    have e0 : wr.cell? ⟨g0, 0, none⟩ = some (.string (rs k)) := HK.out.cell 0
    have e1 := HK.out.frozen 0
    have e2 := HK.out.lt
    have HSZ : Hid (szC g0 wr = (rs k).size) := Lib.hid (by unfold szC; rw [e0])
    by_cases hlt : k < N
    · obtain ⟨h1, h2, h3, h4⟩ := HRS.out k hlt
      obtain ⟨t, ht⟩ : ∃ t, rs k = t := ⟨_, rfl⟩
      rw [ht] at HK e0 h1 h2 h3 h4 HSZ
      have HT := Lib.hid ht
      have HR1 := Lib.hid h3
      have HIX : Hid (∀ wx, Calls Tryd.prog 43 #[.string t, .int .u8 10] wx fun e w' => e = .returned (.int .i64 (ixB t)) ∧ wx = w') := Lib.hid (fun wx => (sh_strings_IndexByte t 10 wx).mono (by rintro e w' ⟨rfl, rfl⟩; exact ⟨rfl, rfl⟩))
      have l1 : (0 : Int) < (t.size : Int) := by omega
      clear ht h3
      by_cases hi : 0 ≤ ixB t
      · have HLN : Hid (lineR t = t.extract 0 (ixB t + 1).toNat) := Lib.hid (if_pos hi)
        have HCU : Hid (cutR t = t.extract (ixB t + 1).toNat t.size) := Lib.hid (if_pos hi)
        obtain ⟨n, hn⟩ : ∃ n : Nat, ixB t = (n : Int) := ⟨(ixB t).toNat, by omega⟩
        rw [hn] at HLN HCU HIX h4
        clear hi hn
        have w1 : IntKind.i64.wrap ((n : Int) + 1) = (n : Int) + 1 := by rw [IntKind.wrap_i64]; omega
        have b0 : (0 : Int) ≤ (n : Int) := by omega
        have b1 : (0 : Int) ≤ (n : Int) + 1 := by omega
        have b2 : (n : Int) + 1 ≤ (t.size : Int) := by omega
        gi_wp2_with (gi_at_call 43; refine (callsIn_wide.2 (HIX.out _)).mono ?_; rintro e w1 ⟨rfl, rfl⟩)
        refine wpIn_wide.2 ?_
        go_still_tail 9, (by kernel_rfl)
        change wpList _ _ _ _ _ wr.drew
        go_wp2
        gi_wp2
        obtain ⟨V, hV⟩ : ∃ V, (wr.setCell ⟨g0, 0, none⟩ (.string (t.extract (n + 1) t.size))).drew = V := ⟨_, rfl⟩
        have HJV : Hid (J k V) := Lib.hid (by
          rw [← hV]
          exact HJJ.out k _ _ none (HM.out k wr _ HJk.out) (grownBy_drew _) (fun r e => by cases e))
        have HKV : Hid (Blk V g0 9 #[.string (rs (k + 1))]) := Lib.hid (by
          rw [← hV, HR1.out, HCU.out, show ((n : Int) + 1).toNat = n + 1 by omega]
          exact HK.out.set_ 0 _)
        have HSV : Hid ((rs (k + 1)).size < t.size) := Lib.hid (by
          rw [HR1.out, HCU.out]
          rw [show ((n : Int) + 1).toNat = n + 1 by omega, ByteArray.size_extract]; omega)
        obtain ⟨fn, tmps, assign, body, hy, hR⟩ := HY.out k #[.string (t.extract 0 (n + 1))] V hlt (by rw [HT.out, HLN.out, show ((n : Int) + 1).toNat = n + 1 by omega]) HJV.out
        have HR := Lib.hid hR
        clear hR
        rw [hV]
        clear hV e0 e1 e2
        rw [hy]
        gi_wp2
        refine HR.out.mono ?_
        rintro e W3 (⟨rfl, hJ3, -, hs3⟩ | ⟨rfl, hX3, -⟩)
        · have HJ3 := Lib.hid hJ3
          have HK3 : Hid (Blk W3 g0 9 #[.string (rs (k + 1))]) := Lib.hid ((hs3 g0 HSB.out).trans HKV.out)
          have HMS : Hid (szC g0 W3 < szC g0 wr) := Lib.hid (by
            rw [HSZ.out]
            have h := HSV.out
            have h0 : W3.cell? ⟨g0, 0, none⟩ = some (.string (rs (k + 1))) := HK3.out.cell 0
            unfold szC
            rw [h0]
            exact h)
          clear HR hy hJ3 hs3
          gi_wp2
          exact ⟨⟨k + 1, by omega, HK3, HJ3⟩, HMS.out⟩
        · have HX := Lib.hid hX3
          clear HR hy hX3
          gi_wp2
          refine bodyPost_ret (results_none rfl _ _ _) rfl ?_
          exact ⟨⟨_, rfl⟩, .inr ⟨k, hlt, HX.out⟩⟩
      · have HLN : Hid (lineR t = t) := Lib.hid (if_neg hi)
        have HCU : Hid (cutR t = ⟨#[]⟩) := Lib.hid (if_neg hi)
        obtain ⟨n, hn⟩ : ∃ n : Int, ixB t = n := ⟨_, rfl⟩
        rw [hn] at HIX hi
        have hi' : n < 0 := by omega
        clear hn h4
        gi_wp2_with (gi_at_call 43; refine (callsIn_wide.2 (HIX.out _)).mono ?_; rintro e w1 ⟨rfl, rfl⟩)
        obtain ⟨V, hV⟩ : ∃ V, wr.setCell ⟨g0, 0, none⟩ (.string ⟨#[]⟩) = V := ⟨_, rfl⟩
        have HJV : Hid (J k V) := Lib.hid (by
          rw [← hV]
          exact HM.out k wr _ HJk.out)
        have HKV : Hid (Blk V g0 9 #[.string (rs (k + 1))]) := Lib.hid (by
          rw [← hV, HR1.out, HCU.out]
          exact HK.out.set_ 0 _)
        have HSV : Hid ((rs (k + 1)).size < t.size) := Lib.hid (by
          rw [HR1.out, HCU.out]
          show 0 < _; omega)
        obtain ⟨fn, tmps, assign, body, hy, hR⟩ := HY.out k #[.string t] V hlt (by rw [HT.out, HLN.out]) HJV.out
        have HR := Lib.hid hR
        clear hR
        rw [hV]
        clear hV e0 e1 e2
        rw [hy]
        gi_wp2
        refine HR.out.mono ?_
        rintro e W3 (⟨rfl, hJ3, -, hs3⟩ | ⟨rfl, hX3, -⟩)
        · have HJ3 := Lib.hid hJ3
          have HK3 : Hid (Blk W3 g0 9 #[.string (rs (k + 1))]) := Lib.hid ((hs3 g0 HSB.out).trans HKV.out)
          have HMS : Hid (szC g0 W3 < szC g0 wr) := Lib.hid (by
            rw [HSZ.out]
            have h := HSV.out
            have h0 : W3.cell? ⟨g0, 0, none⟩ = some (.string (rs (k + 1))) := HK3.out.cell 0
            unfold szC
            rw [h0]
            exact h)
          clear HR hy hJ3 hs3
          gi_wp2
          exact ⟨⟨k + 1, by omega, HK3, HJ3⟩, HMS.out⟩
        · have HX := Lib.hid hX3
          clear HR hy hX3
          gi_wp2
          refine bodyPost_ret (results_none rfl _ _ _) rfl ?_
          exact ⟨⟨_, rfl⟩, .inr ⟨k, hlt, HX.out⟩⟩

    · obtain rfl : k = N := by omega
      have hz := HNN.out
      have l1 : ¬ (0 : Int) < ((rs k).size : Int) := by omega
      gi_wp2
      go_end0
      exact ⟨⟨_, rfl⟩, .inl HJk.out⟩
end
end Go.Proofs.YtfppplalgdopjaaDoor
