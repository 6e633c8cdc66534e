/- Contract of Steps of layer 5 (perm), over the translation. -/
import Derived.Test.YthbcjjodinnnfaaFn15
namespace Go.Proofs.Ythbcjjodinnnfaa
open Go.RowKit
open Go.Shelf

theorem Own.grow3 {w wr w1 : World} {B0 B : Nat} {v : Value} {l : List Int} {o : Obj} (hO : Own wr B v l) (hb : Below B0 w wr) (h0 : B0 ≤ B) (hB : B ≤ wr.heap.size) (hg : (wr.alloc o).grownBy w1 v.ownBlock) : Below B0 w w1 :=
  (hb.alloc (by omega) _).grown hg (by simp; omega) (fun k e => Nat.le_trans h0 (hO.block k e))

set_option maxHeartbeats 1000000 in
theorem perm_Steps_yes (A C : Option Addr) (ca cb : Nat) (a b : List Int) (w : World) (ha : RI w w.heap.size A a) (hb : RI w w.heap.size C b) (la : a.length ≤ 1000) (lb' : b.length ≤ 1000) (ra : rightB a = true) (rb : rightB b = true) (hab : a.length = b.length) :
    Calls Try.prog 21 #[.slice A a.length ca, .slice C b.length cb] w fun r w' => ∃ v, r = .returned (.tuple #[v, .int .i64 0]) ∧ Own w' w.heap.size v (stp 0 a b) ∧ Below w.heap.size w w' := by
  obtain ⟨i0, hi0, hz0, hz1, hz2⟩ := info_parts info3
  have HA := Lib.hid ha
  have HB := Lib.hid hb
  have hL := like_right (right_ok ra) (right_ok rb) hab
  have HL := Lib.hid hL
  have hS := stp_le b a 0 1000 hL la
  have hS2 : (stp 0 a b).length ≤ 1000000 := by have := Nat.mul_le_mul_right 1000 lb'; omega
  obtain ⟨S, hSS⟩ : ∃ S, stp 0 a b = S := ⟨_, rfl⟩
  rw [hSS] at hS2 ⊢
  have HSS := Lib.hid hSS
  have hne : ((a.length : Int) != (b.length : Int)) = false := by simp [hab]
  have HAB := Lib.hid hab
  clear ha hb hL hS hSS hab
  go_enter Try.func21, Try.ntmps21
  go_wp2_with fail
  refine (perm_Right _ _ _ _ HA.out (by omega)).mono ?_
  rintro e w1 ⟨rfl, hb1⟩; rw [ra]
  have HB1 := Lib.hid (HB.out.step hb1)
  have HA1 := Lib.hid (HA.out.step hb1)
  go_wp2_with fail
  refine (perm_Right _ _ _ _ HB1.out (by omega)).mono ?_
  rintro e w2 ⟨rfl, hb2⟩; rw [rb]
  have hb12 := hb1.trans (hb2.mono hb1.size)
  have HB2 := Lib.hid (HB1.out.step hb2)
  have HA2 := Lib.hid (HA1.out.step hb2)
  clear HB1 HA1 hb1 hb2
  go_wp2_with fail
  refine (perm_clone _ _ _ _ HA2.out (by omega)).mono ?_
  rintro e w3 ⟨g, rfl, B3, hg, hb3⟩
  have hbw3 := hb12.trans (hb3.mono hb12.size)
  have hgB := B3.lt
  have HB3 := Lib.hid ((HB.out.below hbw3))
  have HBk := Lib.hid B3
  clear B3 HB2 HA2
  go_wp2
  go_loopw [4, 6, 28] (fun v r i wr => ∃ (k : Nat) (rest z out : List Int), k ≤ b.length ∧ i = .int .i64 k ∧ r = .slice (some ⟨g, 0, none⟩) rest.length a.length ∧ Blk wr g 3 (intRow (rest ++ z)) ∧ Own wr w3.heap.size v out ∧ Hid (SRel b S a.length k rest z out) ∧ w3.heap.size ≤ wr.heap.size ∧ Below w.heap.size w wr) (fun _ _ i _ => b.length - (intOf i).toNat)
  case atStart => exact ⟨0, a, [], [], Nat.zero_le _, rfl, rfl, by simpa using HBk.out, World.ownsRow_nil _ _ _ _, by rw [← HSS.out]; exact SRel.start HL.out, Nat.le_refl _, hbw3⟩
  case round =>
    obtain ⟨k, rest, z, out, hk, rfl, rfl, hB, hO, HR, hsz, hbw⟩ := hrel
    have HBk2 := Lib.hid hB
    have HO := Lib.hid hO
    clear hB hO
    by_cases hlt : k < b.length
    · obtain ⟨bb, off, rfl, hbb, hc⟩ := HB.out (by omega)
      have e1 := (hbw.cell (p := ⟨bb, off + k, none⟩) hbb).trans (hc k hlt)
      have h1' : (k : Int) < (b.length : Int) := by omega
      have hm := HR.out.mem hlt
      have hsm := HR.out.small hlt
      have HN := Lib.hid (HR.out.next hlt)
      have hrl : rest.length ≤ 1000 := by have := HR.out.zs; omega
      have hIx := Any.slices_Index_int Try.laysIndex g 0 rest.length a.length rest (li b k) wr (Nat.le_refl _) (by omega) (fun j hj => by rw [Nat.zero_add, HBk2.out.cell, intRow_at (by rw [List.length_append]; omega), li_app hj]; rfl)
      rw [idx_lib hm.1] at hIx
      have hDl := Any.slices_Delete_int Try.laysDelete g 0 a.length (rest.idxOf (li b k)) (rest.idxOf (li b k) + 1) rest wr (holds_pre HBk2.out) (by have := HR.out.zs; omega) (by omega) (by omega) (by omega)
      rw [erase_td] at hDl
      have hel := List.length_erase_of_mem hm.1
      obtain ⟨f, hf⟩ : ∃ f, rest.idxOf (li b k) = f := ⟨_, rfl⟩
      obtain ⟨re, hre⟩ : ∃ re, rest.erase (li b k) = re := ⟨_, rfl⟩
      obtain ⟨vk, hvk⟩ : ∃ vk, li b k = vk := ⟨_, rfl⟩
      rw [hf] at hIx hDl hsm HN
      rw [hre] at hDl hel HN
      have hfl : f < rest.length := by rw [← hf]; exact hm.2
      rw [show rest.length - (f + 1 - f) = re.length by omega, show f + 1 - f = 1 by omega] at hDl
      have HIx : Hid (Calls Try.prog 28 #[.slice (some ⟨g, 0, none⟩) rest.length a.length, .int .i64 (li b k)] wr fun e w' => e = .returned (.int .i64 (f : Int)) ∧ w' = wr) := hIx
      have HDl : Hid (Calls Try.prog 29 #[.slice (some ⟨g, 0, none⟩) rest.length a.length, .int .i64 (f : Int), .int .i64 ((f : Int) + 1)] wr fun e w' => e = .returned (.slice (some ⟨g, 0, none⟩) re.length a.length) ∧ ∃ q, w' = Sort.putRow (Value.int .i64) (Sort.ahead wr q) g 0 (re ++ List.replicate 1 0).toArray) := hDl
      have hfb : (f : Int) ≤ 1000 := by omega
      have hkb : (k : Int) ≤ 1000 := by omega
      have HEL : Hid ((re ++ List.replicate 1 (0 : Int)).length = rest.length) := by show _ = _; simp; omega
      clear hIx hDl hm hf hre hvk hel hc
      go_wp2_with fail
      refine HIx.out.mono ?_; rintro e w5 ⟨rfl, rfl⟩
      go_wp2_with fail
      refine HDl.out.mono ?_; rintro e w6 ⟨rfl, q, hw6⟩
      have HB6 : Hid (Blk w6 g 3 (intRow (re ++ (0 :: z)))) := by
        show Blk _ _ _ _
        have := blk_put_pre (n := q) HBk2.out HEL.out
        rw [← hw6] at this
        simpa using this
      have HO6 := Lib.hid (HO.out.put (n := q) (m := re ++ List.replicate 1 0) hgB)
      rw [← hw6] at HO6
      have hsz6 : w3.heap.size ≤ w6.heap.size := by rw [hw6, put_size]; exact hsz
      have hbw6 : Below w.heap.size w w6 := by rw [hw6]; exact hbw.trans (below_put (by have := hb12.size; omega))
      clear hw6 HIx HDl HEL
      clear HO
      go_wp2
      go_loopw [4, 10] (fun v at_ wx => ∃ t : Nat, k ≤ t ∧ t ≤ k + f ∧ at_ = .int .i64 t ∧ Own wx w3.heap.size v (out ++ downs k f (k + f - t)) ∧ Blk wx g 3 (intRow (re ++ (0 :: z))) ∧ w3.heap.size ≤ wx.heap.size ∧ Below w.heap.size w wx) (fun _ at_ _ => (intOf at_).toNat - k)
      case atStart => exact ⟨k + f, by omega, by omega, by go_num, by rw [Nat.sub_self]; simpa [downs] using HO6.out, HB6.out, hsz6, hbw6⟩
      case round =>
        obtain ⟨t, ht1, ht2, rfl, hO, hB, hsz7, hbw7⟩ := hrel
        have HO7 := Lib.hid hO
        have HB7 := Lib.hid hB
        clear hO hB
        by_cases hgt : k < t
        · have h2' : (k : Int) < (t : Int) := by omega
          have hdl : (out ++ downs k f (k + f - t)).length ≤ 2000000 := by rw [List.length_append, downs_len]; omega
          have HOP : ∀ v' w', World.ownsRow w' w3.heap.size 3 1 v' ((out ++ downs k f (k + f - t)).length + 1) ((out ++ downs k f (k + f - t)).map (Value.int .i64) ++ [.int .i64 ((t : Int) - 1)]) → Hid (Own w' w3.heap.size v' (out ++ downs k f (k + f - (t - 1)))) := fun v' w' h => by
            show Own _ _ _ _
            have e : ((t : Int) - 1) = ((k + f - 1 - (k + f - t) : Nat) : Int) := by omega
            rw [show k + f - (t - 1) = (k + f - t) + 1 by omega, downs_succ, ← List.append_assoc, ← e]
            exact Own.push h
          obtain ⟨OO, hOO⟩ : ∃ OO, out ++ downs k f (k + f - t) = OO := ⟨_, rfl⟩
          rw [hOO] at hdl HOP HO7
          clear hOO
          go_wp2_with (at_builtin; refine wpList_append_own _ rfl _ _ 22 rfl w3.heap.size 3 i0 _ 1 8 Try.underlying22 hi0 hz0 hz1 hz2 rfl (by decide) _ _ _ rfl (World.ownsRow.alloc HO7.out _) ⟨wr.heap.size, 0, none⟩ 1 1 [.int .i64 ((t : Int) - 1)] rfl rfl (cell_one_new _ _ _) (by simp [Value.oneCell']) (max_ok (by omega)) (by omega) (by simp; omega) ?_; intro v2 w8 hown hg8 _)
          go_roundw
          case rel =>
            have hbB := HO7.out.grow2 (Below.refl w3.heap.size _) hsz7 hg8
            exact ⟨t - 1, by omega, by omega, by go_num, (HOP _ _ hown).out, HB7.out.below hbB hgB, by have := hg8.size; simp at this; omega, HO7.out.grow3 hbw7 hbw3.size hsz7 hg8⟩
          case measure => simp [intOf]; omega
        · obtain rfl : t = k := by omega
          go_wp2
          go_roundw
          case rel => exact ⟨t + 1, re, 0 :: z, _, by omega, by go_num, rfl, HB7.out, HO7.out, by rw [show t + f - t = f by omega]; exact HN, hsz7, hbw7⟩
          case measure => simp [intOf]; omega
    · obtain rfl : k = b.length := by omega
      have HD : Hid (out = S) := HR.out.done
      go_wp2
      go_ret2
      exact ⟨_, rfl, by rw [← HD.out]; exact HO.out.less (by have := hbw3.size; omega), hbw⟩

set_option maxHeartbeats 1000000 in
theorem perm_Steps_no (A C : Option Addr) (ca cb : Nat) (a b : List Int) (w : World) (ha : RI w w.heap.size A a) (hb : RI w w.heap.size C b) (la : a.length ≤ 1000) (lb' : b.length ≤ 1000) (h : rightB a = false ∨ rightB b = false) :
    Calls Try.prog 21 #[.slice A a.length ca, .slice C b.length cb] w fun r w' => r = .returned (.tuple #[.slice none 0 0, .int .i64 1]) ∧ Below w.heap.size w w' := by
  have HA := Lib.hid ha
  have HB := Lib.hid hb
  clear ha hb
  cases ra : rightB a
  · clear h
    go_enter Try.func21, Try.ntmps21
    go_wp2_with fail
    refine (perm_Right _ _ _ _ HA.out (by omega)).mono ?_
    rintro e w1 ⟨rfl, hb1⟩; rw [ra]
    go_wp2
    go_ret2
    exact ⟨rfl, hb1⟩
  · have rb : rightB b = false := by simpa [ra] using h
    clear h
    go_enter Try.func21, Try.ntmps21
    go_wp2_with fail
    refine (perm_Right _ _ _ _ HA.out (by omega)).mono ?_
    rintro e w1 ⟨rfl, hb1⟩; rw [ra]
    have HB1 := Lib.hid (HB.out.step hb1)
    go_wp2_with fail
    refine (perm_Right _ _ _ _ HB1.out (by omega)).mono ?_
    rintro e w2 ⟨rfl, hb2⟩; rw [rb]
    have hb12 := hb1.trans (hb2.mono hb1.size)
    go_wp2
    go_ret2
    exact ⟨rfl, hb12⟩

set_option maxHeartbeats 1000000 in
theorem perm_Steps_len (A C : Option Addr) (ca cb : Nat) (a b : List Int) (w : World) (ha : RI w w.heap.size A a) (hb : RI w w.heap.size C b) (la : a.length ≤ 1000) (lb' : b.length ≤ 1000) (ra : rightB a = true) (rb : rightB b = true) (hab : a.length ≠ b.length) :
    Calls Try.prog 21 #[.slice A a.length ca, .slice C b.length cb] w fun r w' => r = .returned (.tuple #[.slice none 0 0, .int .i64 3]) ∧ Below w.heap.size w w' := by
  have HA := Lib.hid ha
  have HB := Lib.hid hb
  have hne : ((a.length : Int) != (b.length : Int)) = true := by simp; omega
  clear ha hb hab
  go_enter Try.func21, Try.ntmps21
  go_wp2_with fail
  refine (perm_Right _ _ _ _ HA.out (by omega)).mono ?_
  rintro e w1 ⟨rfl, hb1⟩; rw [ra]
  have HB1 := Lib.hid (HB.out.step hb1)
  go_wp2_with fail
  refine (perm_Right _ _ _ _ HB1.out (by omega)).mono ?_
  rintro e w2 ⟨rfl, hb2⟩; rw [rb]
  have hb12 := hb1.trans (hb2.mono hb1.size)
  go_wp2
  go_ret2
  exact ⟨rfl, hb12⟩
end Go.Proofs.Ythbcjjodinnnfaa
