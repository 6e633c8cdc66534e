/- PoolAgain, over the contracts. -/
import Derived.Test.YtljclikholchmaaWk2
import Derived.Deep.Cut
namespace Go.Proofs.Ytljclikholchmaa
open Go.RowKit

theorem hasF_row {f : Nat → Nd} {k q : Nat} (h : q < k) : hasF ((rowN f k).set q nd0) ((q : Int) + 1) = false := by
  rw [hasF_at (by rw [List.length_set, rowN_len]; exact h), getD_set (by rw [rowN_len]; exact h), if_pos rfl]
  show ((0 : Int) == (q : Int) + 1) = false
  simp
  omega
theorem row_back {f : Nat → Nd} {k q : Nat} (h : q < k) : ((rowN f k).set q nd0).set q { f q with id := (q : Int) + 1 } = rowN f k := by
  rw [List.set_set]
  exact List.ext_getElem? fun i => by
    rw [List.getElem?_set]
    split
    · rename_i e
      subst e
      rw [if_pos (by rw [rowN_len]; exact h), rowN_at f h]
    · rfl
theorem row_id {f : Nat → Nd} {k q : Nat} (h : q < k) : ((rowN f k).getD q nd0).id = (q : Int) + 1 := by
  rw [List.getD, rowN_at f h]
  rfl
section
set_option maxRecDepth 100000 in
set_option maxHeartbeats 1000000 in
theorem poolAgain_walk (room : Int) (A : Option Addr) (c : Nat) (l : List Int) (x : Nd) (w : World) (h1 : (Lit.int .u8 room).wf = true) (hR : U8 w w.heap.size A l) (hl : l.length ≤ maxLen) (hlb : ∀ y ∈ l, 0 ≤ y ∧ y ≤ 255) (_hx : (Lit.int .i64 x.id).wf = true) :
    Calls Try.prog 4 #[.int .u8 room, .slice A l.length c, ndV x] w fun e w' => e = .returned (.bool true) ∧ Below w.heap.size w w' := by
  obtain ⟨m1, hm1, hm2⟩ : ∃ m : Nat, room = (m : Int) ∧ m ≤ 255 := by
    have hb := bounds_u8 h1
    exact ⟨room.toNat, by omega, by omega⟩
  subst hm1
  obtain ⟨x0, x1, x2, x3, x4⟩ := x
  obtain ⟨m, hm⟩ : ∃ m : Nat, 1 + m1 % 40 = m := ⟨_, rfl⟩
  have hm3 : 1 + (m1 : Int) % 40 = (m : Int) := by omega
  have hm4 : 1 ≤ m ∧ m ≤ 40 := by omega
  obtain ⟨Z, hZ⟩ : ∃ Z, w.heap.size = Z := ⟨_, rfl⟩
  have hX := Blk.new w 38 (ndRow ⟨x0, x1, x2, x3, x4⟩)
  rw [hZ] at hX ⊢
  have hb : Below Z w (w.alloc (.cells (ndRow ⟨x0, x1, x2, x3, x4⟩) 38)) := (Below.refl _ _).alloc (by omega) _
  have hN := pl_New (n := (m : Int)) (by omega) (by omega) (w.alloc (.cells (ndRow ⟨x0, x1, x2, x3, x4⟩) 38))
  rw [World.size_alloc, hZ] at hN
  rw [hZ] at hR
  unfold ndRow at hX hb hN
  unfold ndV ndRow
  dsimp only at hX hb hN ⊢
  have HX := Lib.hid hX
  have HB := Lib.hid hb
  have HN := Lib.hid hN
  have HR := Lib.hid hR
  have HLB := Lib.hid hlb
  have HM3 := Lib.hid hm3
  unfold maxLen at hl
  have hm2' : (m1 : Int) ≤ 255 := by omega
  have hm5 : (1 : Int) ≤ (m : Int) := by omega
  have hm6 : (m : Int) ≤ 40 := by omega
  clear hX hb hN hR hlb h1 _hx hm
  go_enter Try.func4, Try.ntmps4
  go_wp2_with fail
  refine HN.out.mono ?_; rintro e w1 ⟨rfl, ⟨F1, p1⟩, b1⟩
  have H1 := Lib.hid p1
  have HX1 := Lib.hid (HX.out.below b1 (by omega))
  have B1 := Lib.hid (HB.out.trans (b1.mono (by omega)))
  clear p1 b1 HN HX HB hm3
  obtain ⟨f, hf⟩ : ∃ f : Nat → Nd, f = fun _ => ⟨x0, x1, x2, x3, x4⟩ := ⟨_, rfl⟩
  have HF := Lib.hid hf
  clear hf
  go_wp2_with fail
  go_loopw [10] (fun i wr => ∃ k : Nat, k ≤ m ∧ i = .int .i64 k ∧ (∃ F, Pl wr (Z + 1) (Z + 1) m F (rowN f k) []) ∧ Below Z w wr ∧ Blk wr Z 38 #[.int .i64 x0, .int .i64 x1, .int .i64 x2, .int .i64 x3, .int .i64 x4]) (fun i _ => m - (intOf i).toNat)
  case atStart => exact ⟨0, Nat.zero_le _, rfl, ⟨F1, H1.out⟩, B1.out, HX1.out⟩
  case round =>
    obtain ⟨k, hk, rfl, ⟨F, hp⟩, hb, hx⟩ := hrel
    have HP := Lib.hid hp
    have HB := Lib.hid hb
    have HX := Lib.hid hx
    have c0 := hx.cell 0
    have c1 := hx.cell 1
    have c2 := hx.cell 2
    have c3 := hx.cell 3
    have c4 := hx.cell 4
    simp at c0 c1 c2 c3 c4
    clear hp hb hx H1 B1 HX1
    by_cases hlt : k < m
    · have hlt' : (k : Int) < (m : Int) := by omega
      have hc := pl_Take_new HP.out (by rw [rowN_len]; omega) (f k)
      rw [rowN_len, ← rowN_succ, HF.out] at hc
      unfold ndV ndRow at hc
      dsimp only at hc
      rw [← HF.out] at hc
      have HC := Lib.hid hc
      clear hc
      go_wp2_with fail
      refine HC.out.mono ?_; rintro e w2 ⟨rfl, hn⟩
      have hb2 := hn.below HP.out
      have HB2 := Lib.hid (HB.out.trans (hb2.mono (by omega)))
      have HX2 := Lib.hid (HX.out.below hb2 (by omega))
      obtain ⟨F2, p2, -, -⟩ := hn
      have HP2 := Lib.hid p2
      clear p2 HC HB HP HX hb2 c0 c1 c2 c3 c4
      go_wp2
      go_roundw
      case rel => exact ⟨k + 1, by omega, by go_num, ⟨F2, HP2.out⟩, HB2.out, HX2.out⟩
      case measure => simp [intOf]; omega
    · have hkm : k = m := by omega
      subst hkm
      have hc := pl_Take_full HP.out (by rw [rowN_len]) (f 0)
      rw [HF.out] at hc
      unfold ndV ndRow at hc
      dsimp only at hc
      rw [← HF.out] at hc
      have HC := Lib.hid hc
      clear hc hlt hk
      go_wp2_with fail
      refine HC.out.mono ?_; rintro e w2 ⟨rfl, hn⟩
      have hb2 := hn.below HP.out
      have HB2 := Lib.hid (HB.out.trans (hb2.mono (by omega)))
      have HX2 := Lib.hid (HX.out.below hb2 (by omega))
      obtain ⟨F2, p2, -, -⟩ := hn
      have HP2 := Lib.hid p2
      clear p2 HC HB HP HX hb2 c0 c1 c2 c3 c4
      go_wp2_with fail
      go_loopw [15] (fun i wr => ∃ j : Nat, j ≤ l.length ∧ j ≤ 50 ∧ i = .int .i64 j ∧ (∃ F, Pl wr (Z + 1) (Z + 1) k F (rowN f k) []) ∧ Below Z w wr ∧ Blk wr Z 38 #[.int .i64 x0, .int .i64 x1, .int .i64 x2, .int .i64 x3, .int .i64 x4]) (fun i _ => 50 - (intOf i).toNat)
      case atStart => exact ⟨0, Nat.zero_le _, Nat.zero_le _, rfl, ⟨F2, HP2.out⟩, HB2.out, HX2.out⟩
      case round =>
        obtain ⟨j, hj, hj2, rfl, ⟨F3, hp⟩, hb, hx⟩ := hrel
        have HP := Lib.hid hp
        have HB := Lib.hid hb
        have HX := Lib.hid hx
        clear hp hb hx HP2 HB2 HX2
        by_cases hjt : j < l.length ∧ j < 50
        · obtain ⟨hja, hjb⟩ := hjt
          have hja' : (j : Int) < (l.length : Int) := by omega
          have hjb' : (j : Int) < 50 := by omega
          have hj0 : (0 : Int) ≤ (j : Int) := by omega
          obtain ⟨y, hy⟩ : ∃ y, l[j]? = some y := ⟨_, List.getElem?_eq_getElem hja⟩
          have hyb := HLB.out y (List.mem_of_getElem? hy)
          obtain ⟨b, off, rfl, hbl, hce⟩ := HR.out (by omega)
          have z0 : wr.cell? ⟨b, off + j, none⟩ = some (.int .u8 y) := (HB.out.cell hbl).trans (hce j y hy)
          have hy0 := hyb.1
          have hy1 := hyb.2
          obtain ⟨q, hq⟩ : ∃ q : Nat, y % (k : Int) = (q : Int) := ⟨(y % (k : Int)).toNat, by
            have := Int.emod_nonneg y (show (k : Int) ≠ 0 by omega); omega⟩
          have hqk : q < k := by have := Int.emod_lt_of_pos y (show (0 : Int) < (k : Int) by omega); omega
          have hqk' : (q : Int) ≤ 40 := by omega
          have hq0 : (0 : Int) ≤ (q : Int) := by omega
          have g1 := pl_Give (i := q) HP.out (by rw [rowN_len]; exact hqk) (row_id hqk)
          rw [Int.add_comm] at g1
          have HG := Lib.hid g1
          have HQ := Lib.hid hqk
          clear g1 hce hyb hy
          go_wp2_with fail
          refine HG.out.mono ?_; rintro e w3 ⟨rfl, hn⟩
          have hb3 := hn.below HP.out
          have HB3 := Lib.hid (HB.out.trans (hb3.mono (by omega)))
          have HX3 := Lib.hid (HX.out.below hb3 (by omega))
          obtain ⟨F4, p3, -, -⟩ := hn
          have hat := pl_At p3 ((q : Int) + 1) (WalkArith.wf_i64 (by omega))
          rw [hasF_row hqk, if_neg (by decide), Int.add_comm] at hat
          have HAT := Lib.hid hat
          have HP3 := Lib.hid p3
          clear p3 hat HG HB HP HX hb3 z0
          go_wp2_with fail
          refine HAT.out.mono ?_; rintro e w4 ⟨he, b4⟩
          have he2 : e = .returned (.tuple #[.agg #[.int .i64 0, .int .i64 0, .int .i64 0, .int .i64 0, .int .i64 0], .bool false]) := he
          subst he2
          clear he
          have hz3 : Z < w3.heap.size := HX3.out.lt
          have hal4 : Below w4.heap.size w4 (w4.alloc (.cells #[.int .i64 0, .int .i64 0, .int .i64 0, .int .i64 0, .int .i64 0] 38)) := (Below.refl _ _).alloc (Nat.le_refl _) _
          obtain ⟨w5, hw5⟩ : ∃ w5, w4.alloc (.cells #[.int .i64 0, .int .i64 0, .int .i64 0, .int .i64 0, .int .i64 0] 38) = w5 := ⟨_, rfl⟩
          rw [hw5] at hal4
          have hb5 : Below w3.heap.size w3 w5 := b4.trans (hal4.mono b4.size)
          have HB5 := Lib.hid (HB3.out.trans (hb5.mono (by omega)))
          have HX5 := Lib.hid (HX3.out.below hb5 hz3)
          have HP5 := Lib.hid (HP3.out.below hb5)
          have g2 := pl_Give_none HP5.out ((q : Int) + 1) (WalkArith.wf_i64 (by omega)) (hasF_row hqk)
          rw [Int.add_comm] at g2
          have HG := Lib.hid g2
          have HW5 := Lib.hid hw5
          clear g2 HAT hal4 hb5 hz3 b4 HB3 HX3 HP3 hw5
          go_wp2_with fail
          rw [HW5.out]
          refine HG.out.mono ?_; rintro e w6 ⟨rfl, rfl⟩
          have hx5 := HX5.out
          have c0 := hx5.cell 0
          have c1 := hx5.cell 1
          have c2 := hx5.cell 2
          have c3 := hx5.cell 3
          have c4 := hx5.cell 4
          simp at c0 c1 c2 c3 c4
          have g3 := pl_Take_free (f := []) (i := q) (by have h5 := HP5.out; rw [Int.add_comm 1 (q : Int)] at h5; exact h5) (f q)
          rw [row_back hqk, HF.out, Int.add_comm] at g3
          unfold ndV ndRow at g3
          dsimp only at g3
          rw [← HF.out] at g3
          have HT := Lib.hid g3
          clear hx5 g3 HW5 HG
          go_wp2_with fail
          refine HT.out.mono ?_; rintro e w6 ⟨rfl, hn⟩
          have hb6 := hn.below HP5.out
          have HB6 := Lib.hid (HB5.out.trans (hb6.mono (by omega)))
          have HX6 := Lib.hid (HX5.out.below hb6 (by omega))
          obtain ⟨F6, p6, -, -⟩ := hn
          have HP6 := Lib.hid p6
          clear p6 HT HB5 HX5 HP5 hb6 c0 c1 c2 c3 c4
          go_wp2
          go_roundw
          case rel => exact ⟨j + 1, by omega, by omega, by go_num, ⟨F6, HP6.out⟩, HB6.out, HX6.out⟩
          case measure => simp [intOf]; omega
        · have hA := pl_All HP.out 99
          rw [rowN_each, List.take_of_length_le (by rw [rowN_len]; show k ≤ 99; omega)] at hA
          have HA := Lib.hid hA
          clear hA
          have hj3 : (j : Int) ≤ 50 := by omega
          have hj4 : (j : Int) ≤ (l.length : Int) := by omega
          rcases (show (l.length : Int) ≤ (j : Int) ∨ ((j : Int) < (l.length : Int) ∧ 50 ≤ (j : Int)) by omega) with hj5 | ⟨hj5, hj6⟩
          all_goals
            go_wp2_with fail
            refine HA.out.mono ?_
            rintro e wA ⟨v, rfl, ho, bA⟩
            obtain ⟨A2, c2, rfl⟩ := ownN_form ho
            have hzr : Z < wr.heap.size := HX.out.lt
            have HBA := Lib.hid (HB.out.trans (bA.mono (by omega)))
            have HXA := Lib.hid (HX.out.below bA hzr)
            have HPA := Lib.hid (HP.out.below bA)
            obtain ⟨ZB, hZB⟩ : ∃ ZB, wr.heap.size = ZB := ⟨_, rfl⟩
            rw [hZB] at ho hzr
            have HO := Lib.hid ho
            clear ho bA HA HB HX HP hj3 hj4 hj5 hjt hZB
            rw [rowN_len]
            go_wp2_with fail
            go_loopw [24] (fun i ws => ∃ t : Nat, t ≤ k ∧ i = .int .i64 t ∧ (∃ F, Pl ws (Z + 1) (Z + 1) k F (rowN f k) []) ∧ Below Z w ws ∧ (∃ id0, Blk ws Z 38 #[.int .i64 id0, .int .i64 x1, .int .i64 x2, .int .i64 x3, .int .i64 x4]) ∧ OwnN ws ZB (.slice A2 (rowN f k).length c2) (rowN f k)) (fun i _ => k - (intOf i).toNat)
            case atStart => exact ⟨0, Nat.zero_le _, rfl, ⟨F3, HPA.out⟩, HBA.out, ⟨x0, HXA.out⟩, HO.out⟩
            case round =>
              obtain ⟨t, ht, rfl, ⟨F7, hp⟩, hb, ⟨id0, hx⟩, ho⟩ := hrel
              have HP := Lib.hid hp
              have HB := Lib.hid hb
              have HX := Lib.hid hx
              have HO2 := Lib.hid ho
              clear hp hb hx ho HPA HBA HXA HO
              by_cases htk : t < k
              · have htk' : (t : Int) < (k : Int) := by omega
                have ht0 : (0 : Int) ≤ (t : Int) := by omega
                have hxx := HX.out
                have c0 := hxx.cell 0
                have cf := hxx.frozen 0
                simp at c0
                have hwx : (wr.setCell ⟨Z, 0, none⟩ (.int .i64 ((t : Int) + 1))).heap.size = wr.heap.size := by simp
                have hP2 : Pl (wr.setCell ⟨Z, 0, none⟩ (.int .i64 ((t : Int) + 1))) (Z + 1) (Z + 1) k F7 (rowN f k) [] :=
                  HP.out.frm (S := fun b => b = Z) ((Frm.refl (fun b => b = Z) wr).set (g := Z) rfl 0 _) (fun b hb e => by have := (HP.out.lo hb).1; omega)
                have hB2 : Below Z w (wr.setCell ⟨Z, 0, none⟩ (.int .i64 ((t : Int) + 1))) := HB.out.setCell (p := ⟨Z, 0, none⟩) (Nat.le_refl _) _
                have hX2 := hxx.set_ 0 (.int .i64 ((t : Int) + 1))
                have hO2 : OwnN (wr.setCell ⟨Z, 0, none⟩ (.int .i64 ((t : Int) + 1))) ZB (.slice A2 (rowN f k).length c2) (rowN f k) :=
                  own_set_other HO2.out (fun e => by have := (own_row HO2.out _ e).1; omega) 0 _
                simp at hX2
                clear hxx
                go_upto_region 29 with (fail)
                obtain ⟨wx, hwx⟩ : ∃ wx, wr.setCell ⟨Z, 0, none⟩ (.int .i64 ((t : Int) + 1)) = wx := ⟨_, rfl⟩
                rw [hwx] at hP2 hB2 hX2 hO2 ⊢
                have HP3 := Lib.hid hP2
                have HB3 := Lib.hid hB2
                have HX3 := Lib.hid hX2
                have HO3 := Lib.hid hO2
                have hel : (rowN f k)[t]? = some { f t with id := (t : Int) + 1 } := rowN_at f htk
                obtain ⟨g, rfl, -, -⟩ := hO2.at hel
                obtain ⟨z0, z1, z2, z3, z4⟩ := OwnN.cells hO2 hel
                rw [HF.out] at z0 z1 z2 z3 z4
                dsimp only at z0 z1 z2 z3 z4
                have d0 := hX2.cell 0
                have d1 := hX2.cell 1
                have d2 := hX2.cell 2
                have d3 := hX2.cell 3
                have d4 := hX2.cell 4
                simp at d0 d1 d2 d3 d4
                have hne := neq_nd ⟨(t : Int) + 1, x1, x2, x3, x4⟩ ⟨(t : Int) + 1, x1, x2, x3, x4⟩
                rw [show ndEq ⟨(t : Int) + 1, x1, x2, x3, x4⟩ ⟨(t : Int) + 1, x1, x2, x3, x4⟩ = true from ndEq_iff.2 rfl] at hne
                unfold ndV ndRow at hne
                dsimp only at hne
                clear hP2 hB2 hX2 hO2 hel hwx c0 cf HP HB HX HO2
                go_quiet (fail)
                have HBq := Lib.hid (below_drewN (Below.refl wx.heap.size wx) nq)
                go_wp2
                go_roundw
                case rel => exact ⟨t + 1, by omega, by go_num, ⟨F7, HP3.out.below HBq.out⟩, below_drewN HB3.out nq, ⟨_, HX3.out.drewN nq⟩, own_keep HO3.out HBq.out⟩
                case measure => simp [intOf]; omega
              · have HT := Lib.hid (show t = k by omega)
                have hL := pl_Len HP.out
                rw [rowN_len, show k - ([] : List Int).length = k from rfl] at hL
                have HL := Lib.hid hL
                clear hL
                have hlast : (k : Int) ≤ (t : Int) := by omega
                go_wp2_with fail
                refine HL.out.mono ?_
                rintro e wL ⟨rfl, bL⟩
                have hzw : Z < wr.heap.size := HX.out.lt
                have HBL := Lib.hid (HB.out.trans (bL.mono (Nat.le_of_lt hzw)))
                have HZL := Lib.hid (Nat.le_trans (Nat.le_of_lt hzw) bL.size)
                clear bL HL hzw
                go_wp2_with fail
                refine (lives_any _).mono ?_
                rintro e w6 ⟨rfl, b6⟩
                have HB6 := Lib.hid (HBL.out.trans (b6.mono HZL.out))
                clear b6
                go_wp2
                go_ret
                exact ⟨rfl, HB6.out⟩
end
end Go.Proofs.Ytljclikholchmaa
