/- PoolEnds, over the contracts. -/
import Derived.Test.YtljclikholchmaaFnC
import Derived.Test.YtljclikholchmaaOpen
import Derived.ChangeKeysEq
namespace Go.Proofs.Ytljclikholchmaa
open Go.RowKit

def ndEq (a b : Nd) : Bool := a.id == b.id && (a.v == b.v && (a.lo == b.lo && (a.hi == b.hi && a.refs == b.refs)))
theorem ndEq_iff {a b : Nd} : ndEq a b = true ↔ a = b := by
  obtain ⟨a0, a1, a2, a3, a4⟩ := a
  obtain ⟨b0, b1, b2, b3, b4⟩ := b
  unfold ndEq
  simp
theorem neq_nd (a b : Nd) (w : World) : (binOp .neq 38 (ndV a) (ndV b)).run Try.prog w = .ok (.bool (!(ndEq a b))) w := by
  obtain ⟨a0, a1, a2, a3, a4⟩ := a
  obtain ⟨b0, b1, b2, b3, b4⟩ := b
  unfold ndV ndRow ndEq
  dsimp only
  have u3 := Try.underlying3
  have a3' := Try.isAgg3
  have z3 := Try.sizeOf3
  have hS : Try.prog.underlying 38 = some (.struct (Try.prog.fieldsOf 38)) := by kernel_rfl
  have hp : Try.prog.stoodInHeld 38 = false := by kernel_rfl
  rw [run_neq_struct, show (10000 : Nat) = 9999 + 1 from rfl, run_equalIn_agg w 9999 38 _ _ hS hp]
  simp only [Program.fieldsOf, Try.underlying38]
  go_simp
  by_cases h0 : a0 = b0 <;> by_cases h1 : a1 = b1 <;> by_cases h2 : a2 = b2 <;> by_cases h3 : a3 = b3 <;> by_cases h4 : a4 = b4 <;> simp [h0, h1, h2, h3, h4]
/-- k nodes taken one by one from an empty pool. -/
def rowN (f : Nat → Nd) (k : Nat) : List Nd := (List.range k).map fun i => { f i with id := (i : Int) + 1 }
theorem rowN_len (f : Nat → Nd) (k : Nat) : (rowN f k).length = k := by unfold rowN; simp
theorem rowN_succ (f : Nat → Nd) (k : Nat) : rowN f (k + 1) = rowN f k ++ [{ f k with id := (k : Int) + 1 }] := by
  unfold rowN
  rw [List.range_succ, List.map_append]
  rfl
theorem rowN_at (f : Nat → Nd) {k i : Nat} (h : i < k) : (rowN f k)[i]? = some { f i with id := (i : Int) + 1 } := by
  unfold rowN
  rw [List.getElem?_map, List.getElem?_range h]
  rfl
theorem rowN_each (f : Nat → Nd) (k : Nat) : eachN (rowN f k) = rowN f k := by
  have hg : ∀ i, i < k → (rowN f k).getD i nd0 = { f i with id := (i : Int) + 1 } := fun i hi => by rw [List.getD, rowN_at f hi]; rfl
  unfold eachN takenL
  rw [rowN_len, List.filter_eq_self.2 (fun i hi => by rw [hg i (List.mem_range.1 hi)]; simp)]
  unfold rowN
  refine List.map_congr_left fun i hi => ?_
  exact hg i (List.mem_range.1 hi)
section
set_option maxRecDepth 100000 in
set_option maxHeartbeats 1000000 in
theorem poolEnds_walk (many most : Int) (w : World) (h1 : (Lit.int .u8 many).wf = true) (h2 : (Lit.int .u8 most).wf = true) :
    Calls Try.prog 5 #[.int .u8 many, .int .u8 most] w fun e w' => e = .returned (.bool true) ∧ Below w.heap.size w w' := by
  obtain ⟨m1, hm1, hm2⟩ : ∃ m : Nat, many = (m : Int) ∧ m ≤ 255 := by
    have hb := bounds_u8 h1
    exact ⟨many.toNat, by omega, by omega⟩
  obtain ⟨m2, hm3, hm4⟩ : ∃ m : Nat, most = (m : Int) ∧ m ≤ 255 := by
    have hb := bounds_u8 h2
    exact ⟨most.toNat, by omega, by omega⟩
  subst hm1 hm3
  clear h1 h2
  obtain ⟨f, hf⟩ : ∃ f : Nat → Nd, f = fun i => ⟨0, (i : Int), 0, 0, 0⟩ := ⟨_, rfl⟩
  have HF := Lib.hid hf
  clear hf
  have HN := Lib.hid (pl_New (n := 300) (by omega) (by omega) w)
  obtain ⟨Z, hZ⟩ : ∃ Z, w.heap.size = Z := ⟨_, rfl⟩
  rw [hZ] at HN ⊢
  have HZ := Lib.hid hZ
  clear hZ
  have hm2' : (m1 : Int) ≤ 255 := by omega
  have hm4' : (m2 : Int) ≤ 255 := by omega
  go_enter Try.func5, Try.ntmps5
  go_wp2_with fail
  refine HN.out.mono ?_; rintro e w1 ⟨rfl, ⟨F1, p1⟩, b1⟩
  have H1 := Lib.hid p1
  have B1 := Lib.hid b1
  clear p1 b1 HN
  go_wp2_with fail
  go_loopw [7] (fun i wr => ∃ k : Nat, k ≤ m1 ∧ i = .int .i64 k ∧ (∃ F, Pl wr Z Z 300 F (rowN f k) []) ∧ Below Z w wr) (fun i _ => m1 - (intOf i).toNat)
  case atStart => exact ⟨0, Nat.zero_le _, rfl, ⟨F1, H1.out⟩, B1.out⟩
  case round =>
    obtain ⟨k, hk, rfl, ⟨F, hp⟩, hb⟩ := hrel
    have HP := Lib.hid hp
    have HB := Lib.hid hb
    clear hp hb H1 B1
    by_cases hlt : k < m1
    · have hlt' : (k : Int) < (m1 : Int) := by omega
      have hc := pl_Take_new HP.out (by rw [rowN_len]; omega) (f k)
      rw [rowN_len, ← rowN_succ, HF.out] at hc
      unfold ndV ndRow at hc
      dsimp only at hc
      rw [← HF.out] at hc
      have HC := Lib.hid hc
      clear hc
      go_wp2_with fail
      refine HC.out.mono ?_; rintro e w2 ⟨rfl, hn⟩
      have HB2 := Lib.hid (HB.out.trans (hn.below HP.out))
      obtain ⟨F2, p2, -, -⟩ := hn
      have HP2 := Lib.hid p2
      clear p2 HC HB HP
      go_wp2
      go_roundw
      case rel => exact ⟨k + 1, by omega, by go_num, ⟨F2, HP2.out⟩, HB2.out⟩
      case measure => simp [intOf]; omega
    · have hkm : k = m1 := by omega
      subst hkm
      have hA := pl_All HP.out (m2 : Int)
      rw [rowN_each, Int.toNat_natCast] at hA
      have HA := Lib.hid hA
      clear hA hlt hk
      go_wp2_with fail
      refine HA.out.mono ?_; rintro e w2 ⟨v, rfl, ho, b2⟩
      obtain ⟨A, c, rfl⟩ := ownN_form ho
      have hlen : ((rowN f k).take m2).length = min k m2 := by rw [List.length_take, rowN_len, Nat.min_comm]
      obtain ⟨q, hq⟩ : ∃ q, min k m2 = q := ⟨_, rfl⟩
      have hmin : (min (k : Int) (m2 : Int)) = (q : Int) := by omega
      rw [hq] at hlen
      have HZ2 := Lib.hid (show Z ≤ wr.heap.size by have := HB.out.size; have := HZ.out; omega)
      have HB2 := Lib.hid (HB.out.trans (b2.mono HZ2.out))
      have HO := Lib.hid ho
      have HL := Lib.hid hlen
      have HQ := Lib.hid hq
      have HM := Lib.hid hmin
      have hq1 : (q : Int) ≤ 255 := by omega
      clear ho b2 hlen hq hmin HA HB
      rw [HL.out]
      go_wp2_with fail
      go_loopw [11] (fun i wr => ∃ j : Nat, j ≤ q ∧ i = .int .i64 j ∧ Below w2.heap.size w2 wr) (fun i _ => q - (intOf i).toNat)
      case atStart => exact ⟨0, Nat.zero_le _, rfl, Below.refl _ _⟩
      case round =>
        obtain ⟨j, hj, rfl, hb⟩ := hrel
        have HB3 := Lib.hid hb
        clear hb
        by_cases hjt : j < q
        · have hjt' : (j : Int) < (q : Int) := by omega
          have hj0 : (0 : Int) ≤ (j : Int) := by omega
          have hx : ((rowN f k).take m2)[j]? = some { f j with id := (j : Int) + 1 } := by
            have := HQ.out
            rw [List.getElem?_take_of_lt (by omega), rowN_at f (by omega)]
          obtain ⟨g, rfl, -, -⟩ := HO.out.at hx
          obtain ⟨z0, z1, z2, z3, z4⟩ := OwnN.cells (own_keep HO.out HB3.out) hx
          rw [HF.out] at z0 z1 z2 z3 z4
          dsimp only at z0 z1 z2 z3 z4
          have hne := neq_nd ⟨(j : Int) + 1, (j : Int), 0, 0, 0⟩ ⟨(j : Int) + 1, (j : Int), 0, 0, 0⟩
          rw [show ndEq ⟨(j : Int) + 1, (j : Int), 0, 0, 0⟩ ⟨(j : Int) + 1, (j : Int), 0, 0, 0⟩ = true from ndEq_iff.2 rfl] at hne
          unfold ndV ndRow at hne
          dsimp only at hne
          clear hx
          go_wp2
          go_roundw
          case rel => exact ⟨j + 1, by omega, by go_num, HB3.out⟩
          case measure => simp [intOf]; omega
        · have HJ := Lib.hid (show j = q by omega)
          have HZ3 := Lib.hid (show Z ≤ wr.heap.size by have := HB3.out.size; have := HB2.out.size; have := HZ.out; omega)
          have HB4 := Lib.hid (HB2.out.trans (HB3.out.mono (by have := HB2.out.size; have := HZ.out; omega)))
          have hmin := HM.out
          go_wp2_with fail
          all_goals
            refine (lives_any _).mono ?_
            rintro e w6 ⟨rfl, b6⟩
            have HB6 := Lib.hid (HB4.out.trans (b6.mono HZ3.out))
            clear b6
            go_wp2
            go_ret
            exact ⟨rfl, HB6.out⟩
end
end Go.Proofs.Ytljclikholchmaa
