/- complete: each part is listed once; variables, part: the variables of a part; layer 42 (sched). -/
import Derived.Test.YtjohdkcgodaeiaaFw
import Derived.Test.YtjohdkcgodaeiaaMq
namespace Go.Proofs.Ytjohdkcgodaeiaa
open Go.RowKit

def kAt (K : List (Int × List Int)) (k : Nat) : Int × List Int := K.getD k (0, [])
theorem kAt_map (T : List St) (k : Nat) : kAt (T.map stK) k = stK (stAt T k) := by
  unfold kAt stAt
  rw [List.getD, List.getD, List.getElem?_map]
  cases T[k]? <;> rfl
theorem kAt_fst (T : List St) (k : Nat) : (kAt (T.map stK) k).1 = (stAt T k).1 := by rw [kAt_map]; rfl
theorem kAt_snd (T : List St) (k : Nat) : (kAt (T.map stK) k).2 = (stAt T k).2.2.2 := by rw [kAt_map]; rfl
/-- K lists each of n parts exactly once. -/
def CompP (n : Nat) (K : List (Int × List Int)) : Prop := K.length = n ∧ ∀ i, i < K.length → 0 ≤ (kAt K i).1 ∧ (kAt K i).1 < (n : Int) ∧ ∀ j, j < i → (kAt K j).1 ≠ (kAt K i).1
def boolRow (n : Nat) (S : Nat → Bool) : Array Value := ((List.range n).map fun i => Value.bool (S i)).toArray
theorem boolRow_at {n : Nat} {S : Nat → Bool} {i : Nat} (h : i < n) : (boolRow n S)[i]? = some (.bool (S i)) := by unfold boolRow; simp [h]
theorem boolRow_set {n : Nat} (S : Nat → Bool) (i : Nat) : (boolRow n S).setIfInBounds i (.bool true) = boolRow n (fun j => decide (j = i) || S j) := by
  unfold boolRow
  apply Array.ext_getElem?
  intro j
  rw [Array.getElem?_setIfInBounds]
  simp only [List.getElem?_toArray, List.getElem?_map]
  by_cases e : i = j
  · subst e
    by_cases h : i < n <;> simp [h]
  · rw [if_neg e]
    by_cases h : j < n
    · simp [h, show ¬ j = i from fun q => e q.symm]
    · simp [h]
theorem boolRow_congr {n : Nat} {S S' : Nat → Bool} (h : ∀ i, i < n → S i = S' i) : boolRow n S = boolRow n S' := by
  unfold boolRow
  congr 1
  apply List.map_congr_left
  intro i hi
  rw [h i (List.mem_range.1 hi)]
theorem info4 : (Try.prog.info? 4).map (fun i => (i.zero, i.size, i.bytes)) = some (some (.bool false), 1, 1) := by kernel_rfl
theorem run_mkb (n : Nat) (hn : n ≤ 1000000000000) (w : World) : (Instr.makeSlice 71 (.int .i64 (n : Int)) (.int .i64 (n : Int))).run Try.prog w = .ok (.slice (some ⟨w.heap.size, 0, none⟩) n n) (w.alloc (.cells (boolRow n fun _ => false) 4)) := by
  obtain ⟨i, hi, hz0, hz1, hz2⟩ := info_parts info4
  have h := run_make (P := Try.prog) w 71 4 i _ Try.underlying71 hi hz0 .i64 .i64 n n (by omega) (by omega) (by rw [hz2]; omega) (by omega)
  rw [hz1] at h
  simp only [Int.toNat_natCast, Nat.mul_one] at h
  rw [h]
  congr 2
  have e : (Value.bool false).cells = #[Value.bool false] := rfl
  rw [e]
  unfold madeCells boolRow
  congr 1
  apply Array.ext
  · simp
  · intro i h1 h2
    simp
    rw [Nat.mod_one]; rfl
def lstd (T : List St) (k : Nat) (p : Nat) : Bool := (List.range k).any fun j => decide ((stAt T j).1 = (p : Int))
theorem lstd_succ (T : List St) (k : Nat) (p : Nat) : lstd T (k + 1) p = (lstd T k p || decide ((stAt T k).1 = (p : Int))) := by
  unfold lstd
  rw [List.range_succ, List.any_append]; simp
theorem lstd_iff {T : List St} {k p : Nat} : lstd T k p = true ↔ ∃ j, j < k ∧ (stAt T j).1 = (p : Int) := by
  unfold lstd
  rw [List.any_eq_true]
  simp
def okSt (n : Nat) (T : List St) (i : Nat) : Prop := 0 ≤ (stAt T i).1 ∧ (stAt T i).1 < (n : Int) ∧ ∀ j, j < i → (stAt T j).1 ≠ (stAt T i).1
theorem comp_iff (n : Nat) (T : List St) : CompP n (T.map stK) ↔ T.length = n ∧ ∀ i, i < T.length → okSt n T i := by
  unfold CompP okSt
  simp only [kAt_fst, List.length_map]
def CompR (w : World) (P : Prop) (e : Ending) (w' : World) : Prop := ∃ q, e = .returned (.bool q) ∧ (q = true ↔ P) ∧ Below w.heap.size w w'
set_option maxRecDepth 100000 in
set_option maxHeartbeats 8000000 in
theorem p_complete (n : Nat) (A : Option Addr) (ca : Nat) (T : List St) (w : World) (hT : StP w A T) (hn : n ≤ 1000000) (hl : T.length ≤ 1000000) :
    Calls Try.prog 29 #[.int .i64 (n : Int), .slice A T.length ca] w (CompR w (CompP n (T.map stK))) := by
  rw [comp_iff]
  have HT := Lib.hid hT
  clear hT
  by_cases hln : T.length = n
  · subst hln
    have hne : ((T.length : Int) != (T.length : Int)) = false := by simp
    have hmk := fun w => run_mkb T.length (by omega) w
    have HW1 : Hid (Below w.heap.size w (w.alloc (.cells (boolRow T.length fun _ => false) 4))) := Lib.hid ((Below.refl _ _).alloc (Nat.le_refl _) _)
    have HW2 : Hid (Blk (w.alloc (.cells (boolRow T.length fun _ => false) 4)) w.heap.size 4 (boolRow T.length fun _ => false)) := Lib.hid (Blk.new _ _ _)
    go_enter Try.func29, Try.ntmps29
    go_wp2
    clear hmk
    go_loopw [16] (fun i wr => ∃ k : Nat, k ≤ T.length ∧ i = .int .i64 (k : Int) ∧ Hid (∀ i, i < k → okSt T.length T i) ∧ Hid (Blk wr w.heap.size 4 (boolRow T.length (lstd T k))) ∧ Below w.heap.size w wr) (fun i _ => T.length - (intOf i).toNat)
    case atStart => exact ⟨0, Nat.zero_le _, rfl, Lib.hid (fun i hi => absurd hi (by omega)), Lib.hid (by rw [boolRow_congr (n := T.length) (S := lstd T 0) (S' := fun _ => false) (fun i _ => rfl)]; exact HW2.out), HW1.out⟩
    case round =>
      obtain ⟨k, hk, rfl, HK, HBK, hb⟩ := hrel
      by_cases hkl : k < T.length
      · have h1 : (k : Int) < (T.length : Int) := by omega
        have h0 : (0 : Int) ≤ (k : Int) := by omega
        obtain ⟨b, off, rfl, hbl, hc⟩ := (HT.out.1) (by omega)
        obtain ⟨c1, c2⟩ := hc k hkl
        have e1 := (hb.cell (p := ⟨b, off + k * 2, none⟩) hbl).trans c1
        have e2 := (hb.cell (p := ⟨b, off + k * 2 + 1, none⟩) hbl).trans c2
        unfold rcell at e2
        have hls := lstd_succ T k
        obtain ⟨p, hp⟩ : ∃ p, (stAt T k).1 = p := ⟨_, rfl⟩
        rw [hp] at e1 hls
        generalize (stAt T k).2.1 = Ak at *
        generalize (stAt T k).2.2.1 = ck at *
        generalize (stAt T k).2.2.2.length = lk at *
        have HP := Lib.hid hp
        have HLS := Lib.hid hls
        have HB := Lib.hid hb
        clear hc c1 c2 hp hls hb
        go_upto_region 7 with (fail)
        obtain ⟨W, hW⟩ : ∃ W, wr.alloc (.cells #[.int .i64 p, .slice Ak lk ck] 31) = W := ⟨_, rfl⟩
        have HBW : Hid (Blk W w.heap.size 4 (boolRow T.length (lstd T k))) := Lib.hid (by rw [← hW]; exact HBK.out.alloc _)
        have HLW : Hid (Below w.heap.size w W) := Lib.hid (by rw [← hW]; exact HB.out.alloc HB.out.size _)
        have x0 : W.cell? ⟨wr.heap.size, 0, none⟩ = some (.int .i64 p) := by rw [← hW]; exact (Blk.new wr 31 _).cell 0
        have x1 : W.cell? ⟨wr.heap.size, 1, none⟩ = some (.slice Ak lk ck) := by rw [← hW]; exact (Blk.new wr 31 _).cell 1
        have x2 : wr.heap.size < W.heap.size := by rw [← hW]; exact (Blk.new wr 31 #[.int .i64 p, .slice Ak lk ck]).lt
        rw [hW]
        clear hW e1 e2
        by_cases hp0 : p < 0
        · have HN : Hid (¬ ∀ i, i < T.length → okSt T.length T i) := Lib.hid (fun h => by have := (h k hkl).1; rw [HP.out] at this; omega)
          go_wp2
          go_ret
          exact ⟨false, rfl, ⟨(fun e => by cases e), (fun h => by first | exact absurd h HN.out | exact absurd h.2 HN.out)⟩, HLW.out⟩
        · by_cases hpn : (T.length : Int) ≤ p
          · have HN : Hid (¬ ∀ i, i < T.length → okSt T.length T i) := Lib.hid (fun h => by have := (h k hkl).2.1; rw [HP.out] at this; omega)
            go_wp2
            go_ret
            exact ⟨false, rfl, ⟨(fun e => by cases e), (fun h => by first | exact absurd h HN.out | exact absurd h.2 HN.out)⟩, HLW.out⟩
          · obtain ⟨m, rfl⟩ : ∃ m : Nat, p = (m : Int) := ⟨p.toNat, by omega⟩
            have m1 : (m : Int) < (T.length : Int) := by omega
            have m0 : (0 : Int) ≤ (m : Int) := by omega
            have ml : m < T.length := by omega
            have y1 : W.cell? ⟨w.heap.size, m, none⟩ = some (.bool (lstd T k m)) := by rw [HBW.out.cell, boolRow_at ml]
            have y2 := HBW.out.frozen m
            have y3 := HBW.out.lt
            cases hq : lstd T k m
            · rw [hq] at y1
              have HN : Hid (∀ i, i < k + 1 → okSt T.length T i) := Lib.hid (fun i hi => by
                by_cases e : i = k
                · subst e
                  refine ⟨by rw [HP.out]; exact m0, by rw [HP.out]; exact m1, fun j hj hjp => ?_⟩
                  rw [HP.out] at hjp
                  have := lstd_iff.2 ⟨j, hj, hjp⟩
                  rw [hq] at this; cases this
                · exact HK.out i (by omega))
              have HBS : Hid (Blk (W.setCell ⟨w.heap.size, m, none⟩ (.bool true)) w.heap.size 4 (boolRow T.length (lstd T (k + 1)))) := Lib.hid (by
                have h := HBW.out.set_ m (.bool true)
                rw [boolRow_set, boolRow_congr (S' := lstd T (k + 1))] at h
                · exact h
                · intro j _
                  rw [HLS.out, Bool.or_comm]
                  congr 1
                  apply decide_eq_decide.2
                  omega)
              have HLS2 : Hid (Below w.heap.size w (W.setCell ⟨w.heap.size, m, none⟩ (.bool true))) := Lib.hid (HLW.out.setCell (p := ⟨w.heap.size, m, none⟩) (Nat.le_refl _) _)
              clear hq hp0 hpn
              go_wp2
              go_roundw
              case rel => exact ⟨k + 1, by omega, by go_num, HN, HBS, HLS2.out⟩
              case measure => simp [intOf]; omega
            · rw [hq] at y1
              have HN : Hid (¬ ∀ i, i < T.length → okSt T.length T i) := Lib.hid (fun h => by
                obtain ⟨j, hj, hjp⟩ := lstd_iff.1 hq
                have := (h k hkl).2.2 j hj
                rw [HP.out] at this
                exact this hjp)
              clear hq hp0 hpn
              go_wp2
              go_ret
              exact ⟨false, rfl, ⟨(fun e => by cases e), (fun h => by first | exact absurd h HN.out | exact absurd h.2 HN.out)⟩, HLW.out⟩
      · obtain rfl : k = T.length := by omega
        have h1 : ¬ (T.length : Int) < (T.length : Int) := by omega
        have HB := Lib.hid hb
        clear hb
        go_wp2
        go_ret
        exact ⟨true, rfl, ⟨(fun _ => by first | exact HK.out | exact ⟨rfl, HK.out⟩), (fun _ => rfl)⟩, HB.out⟩
  · have hne : ((T.length : Int) != (n : Int)) = true := by simp; omega
    have HN := Lib.hid hln
    clear hln
    go_enter Try.func29, Try.ntmps29
    go_wp2
    go_ret
    exact ⟨false, rfl, ⟨(fun e => by cases e), (fun h => absurd h.1 HN.out)⟩, Below.refl _ _⟩
end Go.Proofs.Ytjohdkcgodaeiaa
