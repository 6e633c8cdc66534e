/- The specification's Nodes; layer 25 (ddaudit). -/
import Derived.Test.YtmpcfplpdbdmmaaEqv
import Derived.Deep.CutRange
import Derived.Deep.DeepCutAuto
import Derived.BigQuiet
namespace Go.Proofs.Ytmpcfplpdbdmmaa
open Go.RowKit Go.Maps

theorem below_drewN {B : Nat} {a w : World} (h : Below B a w) (n : Nat) : Below B a (w.drewN n) := ⟨h.os, h.tape, h.output, h.size, h.block⟩
structure RS (w : World) (v : Value) (done : List Fd) (wr : World) : Prop where
  own : OwnF wr w.heap.size 30 v done
  bel : Below w.heap.size w wr
section
variable {w wr w2 : World} {v v' : Value} {done : List Fd} {f : Fd}
theorem RS.below (h : RS w v done wr) (hb : Below wr.heap.size wr w2) : RS w v done w2 := ⟨h.own.below hb, h.bel.trans (hb.mono h.bel.size)⟩
theorem RS.app (h : RS w v done wr) (ho : OwnF w2 w.heap.size 30 v' (done ++ [f])) (ha : App wr v w.heap.size v' w2) : RS w v' (done ++ [f]) w2 := ⟨ho, h.bel.trans ha.2.2⟩
end
set_option maxRecDepth 100000 in
set_option maxHeartbeats 4000000 in
theorem r_Nodes (order : List Int) (l : List Nd) (A : Option Addr) (ca : Nat) (C : Option Addr) (cc : Nat) (w : World) (hA : RowI w.heap.size w A order) (hC : RowN w.heap.size w C l) (hN : OkN l) (hl1 : order.length ≤ 9223372036854775807) (hl2 : l.length ≤ 1000) :
    Calls Try.prog 8 #[.slice A order.length ca, .slice C l.length cc] w (NodP order l 30 w) := by
  have HC := Lib.hid hC
  have HN := Lib.hid hN
  have HL2 := Lib.hid hl2
  have HLo : Hid (∀ e wx, In64 e → Below w.heap.size w wx → Calls Try.prog 17 #[.int .i64 e, .slice C l.length cc] wx fun r w' => r = .returned (.bool (lostR l e)) ∧ wx = w') := Lib.hid (fun e wx he hb => r_lost l e he C cc wx ((hC.below hb (Nat.le_refl _)).mono hb.size) hl2)
  have HWr : Hid (∀ at_ e wx, In64 e → Below w.heap.size w wx → Calls Try.prog 19 #[.int .i64 at_, .int .i64 e, .slice A order.length ca, .slice C l.length cc] wx fun r w' => r = .returned (.bool (wrongR order l at_ e)) ∧ wx = w') := Lib.hid (fun at_ e wx he hb => r_wrong order l at_ e he A ca C cc wx ((hA.below hb (Nat.le_refl _)).mono hb.size) ((hC.below hb (Nat.le_refl _)).mono hb.size) hl1 hl2)
  have HPl : Hid (∀ v wx, Below w.heap.size w wx → Calls Try.prog 18 #[.slice A order.length ca, .int .i64 v] wx fun r w' => r = .returned (.int .i64 (posZ (idxF order) v)) ∧ wx = w') := Lib.hid (fun v wx hb => r_place order v A ca wx ((hA.below hb (Nat.le_refl _)).mono hb.size) hl1)
  have HS0 : Hid (RS w (.slice none 0 0) [] w) := Lib.hid ⟨⟨rfl, .inl ⟨rfl, rfl⟩⟩, Below.refl _ _⟩
  clear hA hC hN hl1 hl2
  go_enter Try.func8, Try.ntmps8
  go_wp2
  go_loopw [5, 6] (fun v i wr => ∃ k : Nat, k ≤ l.length ∧ i = .int .i64 (k : Int) ∧ Hid (RS w v (allF order l k) wr)) (fun _ i _ => l.length - (intOf i).toNat)
  case atStart => exact ⟨0, Nat.zero_le _, rfl, HS0⟩
  case round =>
    obtain ⟨k, hk, rfl, HS⟩ := hrel
    clear HS0
    have hbd := HL2.out
    by_cases hlt : k < l.length
    · have l1 : (k : Int) < (l.length : Int) := by omega
      obtain ⟨b, f0, rfl, hbl, hc⟩ := HC.out (by omega)
      obtain ⟨a0, a1, a2, a3, a4⟩ := hc k hlt
      have hB := HS.out.bel
      have d0 := (hB.cell (p := ⟨b, f0 + k * 5, none⟩) hbl).trans a0
      have d1 := (hB.cell (p := ⟨b, f0 + k * 5 + 1, none⟩) hbl).trans a1
      have d2 := (hB.cell (p := ⟨b, f0 + k * 5 + 2, none⟩) hbl).trans a2
      have d3 := (hB.cell (p := ⟨b, f0 + k * 5 + 3, none⟩) hbl).trans a3
      have d4 := (hB.cell (p := ⟨b, f0 + k * 5 + 4, none⟩) hbl).trans a4
      have HX := Lib.hid (HN.out k hlt)
      have hP : ∀ j p, vioK order l k (kd j) = p → partF order l k (j + 1) = partF order l k j ++ (if p = true then [⟨kd j, (na l k).id⟩] else []) := fun j p hp => by rw [← hp]; rfl
      have HP0 := Lib.hid (hP 0 _ (vio_4 order l k))
      have HP1 := Lib.hid (hP 1 _ (vio_3 order l k))
      have HP2 := Lib.hid (hP 2 _ (vio_5 order l k))
      have HP3 := Lib.hid (hP 3 _ (vio_1 order l k))
      have HP4 := Lib.hid (hP 4 _ (vio_2 order l k HN.out hlt))
      have HAF : Hid (allF order l (k + 1) = allF order l k ++ partF order l k 5) := Lib.hid rfl
      have HPZ : Hid (partF order l k 0 = []) := Lib.hid rfl
      have HLn : Hid (∀ j, j ≤ 5 → (allF order l k ++ partF order l k j).length ≤ 1000000) := Lib.hid (fun j hj => by
        have := allF_len order l k
        have := partF_len order l k j
        rw [List.length_append]; omega)
      clear hc a0 a1 a2 a3 a4 hP
      generalize na l k = x at *
      generalize partF order l k = part at *
      generalize allF order l k = done at *
      have HS1 : Hid (RS w u5 (done ++ part 0) (wr.alloc (.cells (ndR x) 39))) := Lib.hid (by rw [HPZ.out, List.append_nil]; exact HS.out.below ((Below.refl _ _).alloc (Nat.le_refl _) (.cells (ndR x) 39)))
      have HA1 : Hid (Ap wr.heap.size x u5 (wr.alloc (.cells (ndR x) 39))) := Lib.hid ⟨Blk.new _ _ _, fun e => by have := HS.out.own.lt e; omega⟩
      clear HS hB
      unfold ndR at HA1 HS1
      go_upto_region 6 with (fail)
      generalize wr.heap.size = g at *
      generalize wr.alloc (.cells #[Value.int IntKind.i64 x.id, Value.int IntKind.i64 x.v, Value.int IntKind.i64 x.lo, Value.int IntKind.i64 x.hi, Value.int IntKind.i64 x.refs] 39) = wr1 at *
      clear d0 d1 d2 d3 d4
      have c3 := HA1.out.1.cell 3
      simp only [ndR, List.getElem?_toArray, List.getElem?_cons_zero, List.getElem?_cons_succ] at c3
      obtain ⟨p, hp⟩ : ∃ p, negF x.hi = p := ⟨_, rfl⟩
      rw [hp] at HP0
      have hhi := HX.out.hi
      go_cut [28] from 10 to 139 (fun s28 wx => s28 = .bool p ∧ wx = wr1)
      case first =>
        unfold negF at hp
        unfold In64 at hhi
        by_cases h0 : 0 ≤ x.hi
        · by_cases h1 : x.hi % 2 = 1
          · have hp2 : p = true := by rw [← hp]; simp [h0, h1]
            have h2 : (x.hi.tmod 2 == 1) = true := by rw [Int.tmod_eq_emod_of_nonneg h0, h1]; rfl
            clear hp
            go_wp2_with fail
            go_meet
            exact ⟨by simp [hp2, *], rfl⟩
          · have hp2 : p = false := by rw [← hp]; simp [h1]
            have h2 : (x.hi.tmod 2 == 1) = false := by rw [Int.tmod_eq_emod_of_nonneg h0]; simp [h1]
            clear hp
            go_wp2_with fail
            go_meet
            exact ⟨by simp [hp2, *], rfl⟩
        · have hp2 : p = false := by rw [← hp]; simp [h0]
          clear hp
          go_wp2_with fail
          go_meet
          exact ⟨by simp [hp2, *], rfl⟩
      case rest =>
      obtain ⟨rfl, rfl⟩ := hcut
      clear c3 hhi hp
      have c0 := HA1.out.1.cell 0
      simp only [ndR, List.getElem?_toArray, List.getElem?_cons_zero, List.getElem?_cons_succ] at c0
      go_upto_if 28 with (fail)
      go_cut [5] from 10 to 139 (fun s5 wx => Hid (RS w s5 (done ++ part 1) wx) ∧ Hid (Ap g x s5 wx))
      case first =>
        cases p
        · have HPE : Hid (part 1 = part 0) := Lib.hid (by rw [HP0.out]; simp)
          go_wp2_with fail
          go_meet
          exact ⟨by rw [HPE.out]; exact HS1, HA1⟩
        · have HPE : Hid (part 1 = part 0 ++ [⟨4, x.id⟩]) := Lib.hid (by rw [HP0.out]; simp [kd])
          go_wp2_with (at_builtin; refine wpList_app_fd rfl (.tmp 29) (.tmp 33) 27 30 Try.underlying27 info30 rfl wc w.heap.size u5 (done ++ part 0) rfl HS1.out.own 4 x.id wc.heap.size rfl rfl HS1.out.bel.size (HLn.out 0 (by omega)) ?_; intro v4 w4 hO4 ha4; have HG := Lib.hid (And.intro (HS1.out.app hO4 ha4) (HA1.out.app ha4)); clear hO4 ha4)
          go_meet
          exact ⟨by rw [HPE.out, ← List.append_assoc]; exact Lib.hid HG.out.1, Lib.hid HG.out.2⟩
      case rest =>
      obtain ⟨HS2, HA2⟩ := hcut
      obtain ⟨wa, hwe⟩ : ∃ x, x = wc := ⟨_, rfl⟩
      subst hwe
      clear HS1 HA1 c0 HP0
      have HS1 := HS2
      have HA1 := HA2
      clear HS2 HA2
      obtain ⟨p, hp⟩ : ∃ p, decide (x.lo = x.hi) = p := ⟨_, rfl⟩
      rw [hp] at HP1
      have c2 := HA1.out.1.cell 2
      have c3 := HA1.out.1.cell 3
      simp only [ndR, List.getElem?_toArray, List.getElem?_cons_zero, List.getElem?_cons_succ] at c2 c3
      go_upto_region 8 with (fail)
      go_cut [39] from 10 to 139 (fun s39 wx => s39 = .bool p ∧ wx = wa)
      case first =>
        have h2 : (x.lo == x.hi) = p := by rw [← hp]; rfl
        go_wp2_with fail
        go_meet
        exact ⟨by first | rfl | rw [h2] | simp [h2], rfl⟩
      case rest =>
      obtain ⟨rfl, rfl⟩ := hcut
      clear c2 c3 hp
      have c0 := HA1.out.1.cell 0
      simp only [ndR, List.getElem?_toArray, List.getElem?_cons_zero, List.getElem?_cons_succ] at c0
      go_upto_if 39 with (fail)
      go_cut [5] from 10 to 139 (fun s5 wx => Hid (RS w s5 (done ++ part 2) wx) ∧ Hid (Ap g x s5 wx))
      case first =>
        cases p
        · have HPE : Hid (part 2 = part 1) := Lib.hid (by rw [HP1.out]; simp)
          go_wp2_with fail
          go_meet
          exact ⟨by rw [HPE.out]; exact HS1, HA1⟩
        · have HPE : Hid (part 2 = part 1 ++ [⟨3, x.id⟩]) := Lib.hid (by rw [HP1.out]; simp [kd])
          go_wp2_with (at_builtin; refine wpList_app_fd rfl (.tmp 40) (.tmp 44) 27 30 Try.underlying27 info30 rfl wc w.heap.size u5 (done ++ part 1) rfl HS1.out.own 3 x.id wc.heap.size rfl rfl HS1.out.bel.size (HLn.out 1 (by omega)) ?_; intro v4 w4 hO4 ha4; have HG := Lib.hid (And.intro (HS1.out.app hO4 ha4) (HA1.out.app ha4)); clear hO4 ha4)
          go_meet
          exact ⟨by rw [HPE.out, ← List.append_assoc]; exact Lib.hid HG.out.1, Lib.hid HG.out.2⟩
      case rest =>
      obtain ⟨HS2, HA2⟩ := hcut
      obtain ⟨wb, hwe⟩ : ∃ x, x = wc := ⟨_, rfl⟩
      subst hwe
      clear HS1 HA1 c0 HP1
      have HS1 := HS2
      have HA1 := HA2
      clear HS2 HA2
      obtain ⟨p, hp⟩ : ∃ p, lostR l x.lo = p := ⟨_, rfl⟩
      obtain ⟨q, hq⟩ : ∃ q, lostR l x.hi = q := ⟨_, rfl⟩
      have HC1 := Lib.hid (HLo.out x.lo wb HX.out.lo HS1.out.bel)
      have HC2 := Lib.hid (HLo.out x.hi wb HX.out.hi HS1.out.bel)
      rw [hp, hq] at HP2
      rw [hp] at HC1
      rw [hq] at HC2
      clear hp hq
      have hpq : ∃ r, (p || q) = r := ⟨_, rfl⟩
      obtain ⟨r, hr⟩ := hpq
      rw [hr] at HP2
      have c2 := HA1.out.1.cell 2
      have c3 := HA1.out.1.cell 3
      simp only [ndR, List.getElem?_toArray, List.getElem?_cons_zero, List.getElem?_cons_succ] at c2 c3
      go_upto_region 10 with (fail)
      go_cut [55] from 10 to 139 (fun s55 wx => s55 = .bool r ∧ wx = wb)
      case first =>
        cases p
        all_goals
          go_wp2_with (first
            | (go_at_call 17; have _t := toks; refine HC2.out.mono ?_; rintro r w' ⟨rfl, rfl⟩)
            | (go_at_call 17; refine HC1.out.mono ?_; rintro r w' ⟨rfl, rfl⟩; have toks : True := trivial))
          go_meet
          exact ⟨by rw [← hr] <;> simp, rfl⟩
      case rest =>
      obtain ⟨rfl, rfl⟩ := hcut
      clear c2 c3 hr HC1 HC2
      have c0 := HA1.out.1.cell 0
      simp only [ndR, List.getElem?_toArray, List.getElem?_cons_zero, List.getElem?_cons_succ] at c0
      go_upto_if 55 with (fail)
      go_cut [5] from 10 to 139 (fun s5 wx => Hid (RS w s5 (done ++ part 3) wx) ∧ Hid (Ap g x s5 wx))
      case first =>
        cases r
        · have HPE : Hid (part 3 = part 2) := Lib.hid (by rw [HP2.out]; simp)
          go_wp2_with fail
          go_meet
          exact ⟨by rw [HPE.out]; exact HS1, HA1⟩
        · have HPE : Hid (part 3 = part 2 ++ [⟨5, x.id⟩]) := Lib.hid (by rw [HP2.out]; simp [kd])
          go_wp2_with (at_builtin; refine wpList_app_fd rfl (.tmp 56) (.tmp 60) 27 30 Try.underlying27 info30 rfl wc w.heap.size u5 (done ++ part 2) rfl HS1.out.own 5 x.id wc.heap.size rfl rfl HS1.out.bel.size (HLn.out 2 (by omega)) ?_; intro v4 w4 hO4 ha4; have HG := Lib.hid (And.intro (HS1.out.app hO4 ha4) (HA1.out.app ha4)); clear hO4 ha4)
          go_meet
          exact ⟨by rw [HPE.out, ← List.append_assoc]; exact Lib.hid HG.out.1, Lib.hid HG.out.2⟩
      case rest =>
      obtain ⟨HS2, HA2⟩ := hcut
      obtain ⟨wd, hwe⟩ : ∃ x, x = wc := ⟨_, rfl⟩
      subst hwe
      clear HS1 HA1 c0 HP2
      have HS1 := HS2
      have HA1 := HA2
      clear HS2 HA2
      have HC0 := Lib.hid (HPl.out x.v wd HS1.out.bel)
      obtain ⟨z, hz⟩ : ∃ z, posZ (idxF order) x.v = z := ⟨_, rfl⟩
      rw [hz] at HP3 HC0
      obtain ⟨p, hp⟩ : ∃ p, wrongR order l z x.lo = p := ⟨_, rfl⟩
      obtain ⟨q, hq⟩ : ∃ q, wrongR order l z x.hi = q := ⟨_, rfl⟩
      have HC1 := Lib.hid (HWr.out z x.lo wd HX.out.lo HS1.out.bel)
      have HC2 := Lib.hid (HWr.out z x.hi wd HX.out.hi HS1.out.bel)
      rw [hp, hq] at HP3
      rw [hp] at HC1
      rw [hq] at HC2
      clear hp hq hz
      have hpq : ∃ r, (decide (z < 0) || p || q) = r := ⟨_, rfl⟩
      obtain ⟨r, hr⟩ := hpq
      rw [hr] at HP3
      have c1 := HA1.out.1.cell 1
      have c2 := HA1.out.1.cell 2
      have c3 := HA1.out.1.cell 3
      simp only [ndR, List.getElem?_toArray, List.getElem?_cons_zero, List.getElem?_cons_succ] at c1 c2 c3
      go_upto_region 13 with (go_at_call 18; refine HC0.out.mono ?_; rintro r w' ⟨rfl, rfl⟩)
      go_cut [83] from 10 to 139 (fun s83 wx => s83 = .bool r ∧ wx = wd)
      case first =>
        by_cases hz0 : z < 0
        · go_wp2_with fail
          go_meet
          exact ⟨by rw [← hr]; simp [hz0], rfl⟩
        · have hz1 : decide (z < 0) = false := by simp [hz0]
          cases p
          all_goals
            go_wp2_with (first
              | (go_at_call 19; have _t := toks; refine HC2.out.mono ?_; rintro r w' ⟨rfl, rfl⟩)
              | (go_at_call 19; refine HC1.out.mono ?_; rintro r w' ⟨rfl, rfl⟩; have toks : True := trivial))
            go_meet
            exact ⟨by rw [← hr, hz1] <;> simp, rfl⟩
      case rest =>
      obtain ⟨rfl, rfl⟩ := hcut
      clear c1 c2 c3 hr HC0 HC1 HC2
      have c0 := HA1.out.1.cell 0
      simp only [ndR, List.getElem?_toArray, List.getElem?_cons_zero, List.getElem?_cons_succ] at c0
      go_upto_if 83 with (fail)
      go_cut [5] from 10 to 139 (fun s5 wx => Hid (RS w s5 (done ++ part 4) wx) ∧ Hid (Ap g x s5 wx))
      case first =>
        cases r
        · have HPE : Hid (part 4 = part 3) := Lib.hid (by rw [HP3.out]; simp)
          go_wp2_with fail
          go_meet
          exact ⟨by rw [HPE.out]; exact HS1, HA1⟩
        · have HPE : Hid (part 4 = part 3 ++ [⟨1, x.id⟩]) := Lib.hid (by rw [HP3.out]; simp [kd])
          go_wp2_with (at_builtin; refine wpList_app_fd rfl (.tmp 84) (.tmp 88) 27 30 Try.underlying27 info30 rfl wc w.heap.size u5 (done ++ part 3) rfl HS1.out.own 1 x.id wc.heap.size rfl rfl HS1.out.bel.size (HLn.out 3 (by omega)) ?_; intro v4 w4 hO4 ha4; have HG := Lib.hid (And.intro (HS1.out.app hO4 ha4) (HA1.out.app ha4)); clear hO4 ha4)
          go_meet
          exact ⟨by rw [HPE.out, ← List.append_assoc]; exact Lib.hid HG.out.1, Lib.hid HG.out.2⟩
      case rest =>
      obtain ⟨HS2, HA2⟩ := hcut
      obtain ⟨we, hwe⟩ : ∃ x, x = wc := ⟨_, rfl⟩
      subst hwe
      clear HS1 HA1 c0 HP3
      have HS1 := HS2
      have HA1 := HA2
      clear HS2 HA2
      have HXI : Hid (∀ m, m < l.length → w.cell? ⟨b, f0 + m * 5, none⟩ = some (.int .i64 (na l m).id) ∧ w.cell? ⟨b, f0 + m * 5 + 1, none⟩ = some (.int .i64 (na l m).v) ∧ w.cell? ⟨b, f0 + m * 5 + 2, none⟩ = some (.int .i64 (na l m).lo) ∧ w.cell? ⟨b, f0 + m * 5 + 3, none⟩ = some (.int .i64 (na l m).hi)) := Lib.hid (fun m hm => by
        obtain ⟨b2, f2, e, _, hc⟩ := HC.out (by omega)
        injection e with e; injection e with e1 e2; subst e1; subst e2
        obtain ⟨a0, a1, a2, a3, _⟩ := hc m hm
        exact ⟨a0, a1, a2, a3⟩)
      have HI0 : Hid (dupR (l.take 0) x = false) := Lib.hid (by simp [dupR])
      have HE5 : Hid (∀ b : Bool, dupR (l.take k) x = b → part 5 = if b = true then part 4 ++ [⟨2, x.id⟩] else part 4) := Lib.hid (fun b hb => by rw [HP4.out, hb]; cases b <;> simp [kd])
      have HS4 := HS1
      have HA4 := HA1
      clear HS1 HA1 HC
      go_wp2
      go_loopw [5, 9] (fun s5 s9 wr => ∃ (m : Nat) (b : Bool), s9 = .int .i64 (m : Int) ∧ Hid (b = false → m ≤ k ∧ dupR (l.take m) x = false) ∧ Hid (b = true → m = k + 1 ∧ dupR (l.take k) x = true) ∧ Hid (RS w s5 (done ++ (if b = true then part 4 ++ [⟨2, x.id⟩] else part 4)) wr) ∧ Hid (Ap g x s5 wr)) (fun _ i _ => (k + 1) - (intOf i).toNat)
      case atStart => exact ⟨0, false, rfl, Lib.hid (fun _ => ⟨Nat.zero_le _, HI0.out⟩), Lib.hid (fun h => by cases h), HS4, HA4⟩
      case round =>
        obtain ⟨m, bb, rfl, HF, HT, HS1, HA1⟩ := hrel
        clear HS4 HA4
        cases bb
        · obtain ⟨hmk, hdm⟩ := HF.out rfl
          have HD := Lib.hid hdm
          clear HF HT hdm
          simp only [Bool.false_eq_true, if_false] at HS1
          by_cases hm : m < k
          · have l2 : (m : Int) < (k : Int) := by omega
            have l3 : (m : Int) < (l.length : Int) := by omega
            have l4 : (0 : Int) ≤ (m : Int) := by omega
            have hml : m < l.length := by omega
            obtain ⟨e0, e1, e2, e3⟩ := HXI.out m hml
            have hB := HS1.out.bel
            have d0 := (hB.cell (p := ⟨b, f0 + m * 5, none⟩) hbl).trans e0
            have d1 := (hB.cell (p := ⟨b, f0 + m * 5 + 1, none⟩) hbl).trans e1
            have d2 := (hB.cell (p := ⟨b, f0 + m * 5 + 2, none⟩) hbl).trans e2
            have d3 := (hB.cell (p := ⟨b, f0 + m * 5 + 3, none⟩) hbl).trans e3
            have HTK := Lib.hid (na_take hml)
            clear e0 e1 e2 e3 hB
            generalize na l m = y at *
            obtain ⟨p, hp⟩ : ∃ p, dupB x y = p := ⟨_, rfl⟩
            have HP := Lib.hid hp
            have c0 := HA1.out.1.cell 0
            have c1 := HA1.out.1.cell 1
            have c2 := HA1.out.1.cell 2
            have c3 := HA1.out.1.cell 3
            simp only [ndR, List.getElem?_toArray, List.getElem?_cons_zero, List.getElem?_cons_succ] at c0 c1 c2 c3
            go_upto_region 18 with (fail)
            go_cut [132] from 90 to 139 (fun s wx => s = .bool p ∧ Hid (Below wr.heap.size wr wx))
            case first =>
              unfold dupB at hp
              by_cases q0 : y.id = x.id
              · have b0 : (y.id == x.id) = true := by simp [q0]
                have hp2 : p = true := by rw [← hp]; simp [q0]
                clear hp
                go_big_quiet (fail)
                go_wp2
                go_meet
                exact ⟨by rw [hp2], Lib.hid (below_drewN (Below.refl _ _) _)⟩
              have b0 : (y.id == x.id) = false := by simp [q0]
              by_cases q1 : y.v = x.v
              · have b1 : (y.v == x.v) = true := by simp [q1]
                by_cases q2 : y.lo = x.lo
                · have b2 : (y.lo == x.lo) = true := by simp [q2]
                  obtain ⟨r, b3⟩ : ∃ r, (y.hi == x.hi) = r := ⟨_, rfl⟩
                  have hp2 : p = r := by rw [← hp, ← b3]; simp [q0, q1, q2]; rfl
                  clear hp
                  go_big_quiet (fail)
                  go_wp2
                  go_meet
                  exact ⟨by first | rw [hp2] | (rw [hp2, b3]), Lib.hid (below_drewN (Below.refl _ _) _)⟩
                · have b2 : (y.lo == x.lo) = false := by simp [q2]
                  have hp2 : p = false := by rw [← hp]; simp [q0, q2]
                  clear hp
                  go_big_quiet (fail)
                  go_wp2
                  go_meet
                  exact ⟨by rw [hp2], Lib.hid (below_drewN (Below.refl _ _) _)⟩
              · have b1 : (y.v == x.v) = false := by simp [q1]
                have hp2 : p = false := by rw [← hp]; simp [q0, q1]
                clear hp
                go_big_quiet (fail)
                go_wp2
                go_meet
                exact ⟨by rw [hp2], Lib.hid (below_drewN (Below.refl _ _) _)⟩
            case rest =>
            obtain ⟨rfl, HBx⟩ := hcut
            have HS2 := Lib.hid (HS1.out.below HBx.out)
            have HA2 := Lib.hid (HA1.out.below HBx.out)
            obtain ⟨wf, hwe⟩ : ∃ x, x = wc := ⟨_, rfl⟩
            subst hwe
            have c0 := HA2.out.1.cell 0
            simp only [ndR, List.getElem?_toArray, List.getElem?_cons_zero, List.getElem?_cons_succ] at c0
            clear HS1 HA1 HBx c1 c2 c3 d0 d1 d2 d3 hp
            cases p
            · have X : Hid (dupR (l.take (m + 1)) x = false) := Lib.hid (by
                have := HD.out
                unfold dupR at *
                rw [HTK.out, List.any_append, this]; simp [HP.out])
              go_wp2
              go_roundw
              case rel => exact ⟨m + 1, false, by go_num, Lib.hid (fun _ => ⟨by omega, X.out⟩), Lib.hid (fun h => by cases h), by simpa using HS2, HA2⟩
              case measure => simp [intOf]; try omega
            · have X : Hid (dupR (l.take k) x = true) := Lib.hid (by
                unfold dupR
                have e : l.take k = l.take (m + 1) ++ (l.drop (m + 1)).take (k - (m + 1)) := by
                  rw [← List.take_add]; congr 1; omega
                rw [e, HTK.out, List.any_append, List.any_append]; simp [HP.out])
              go_wp2_with (at_builtin; refine wpList_app_fd rfl (.tmp 133) (.tmp 137) 27 30 Try.underlying27 info30 rfl wf w.heap.size u5 (done ++ part 4) rfl HS2.out.own 2 x.id wf.heap.size rfl rfl HS2.out.bel.size (HLn.out 4 (by omega)) ?_; intro v4 w4 hO4 ha4; have HG := Lib.hid (And.intro (HS2.out.app hO4 ha4) (HA2.out.app ha4)); clear hO4 ha4)
              go_roundw
              case rel => exact ⟨k + 1, true, by go_num, Lib.hid (fun h => by cases h), Lib.hid (fun _ => ⟨rfl, X.out⟩), by rw [if_pos rfl, ← List.append_assoc]; exact Lib.hid HG.out.1, Lib.hid HG.out.2⟩
              case measure => simp [intOf]; try omega
          · have l2 : ¬ (m : Int) < (k : Int) := by omega
            have X : Hid (RS w u5 (allF order l (k + 1)) wr) := Lib.hid (by
              obtain rfl : m = k := by omega
              rw [HAF.out, HE5.out false HD.out]; exact HS1.out)
            go_wp2
            go_roundw
            case rel => exact ⟨k + 1, by omega, by go_num, X⟩
            case measure => simp [intOf]; try omega
        · obtain ⟨hmk, hdm⟩ := HT.out rfl
          have X : Hid (RS w u5 (allF order l (k + 1)) wr) := Lib.hid (by rw [HAF.out, HE5.out true hdm]; exact HS1.out)
          clear HF HT hdm
          have l2 : ¬ (m : Int) < (k : Int) := by omega
          go_wp2
          go_roundw
          case rel => exact ⟨k + 1, by omega, by go_num, X⟩
          case measure => simp [intOf]; try omega
    · have l1 : ¬ (k : Int) < (l.length : Int) := by omega
      obtain rfl : k = l.length := by omega
      go_wp2
      go_ret
      exact ⟨_, rfl, HS.out.own, HS.out.bel⟩
end Go.Proofs.Ytmpcfplpdbdmmaa
