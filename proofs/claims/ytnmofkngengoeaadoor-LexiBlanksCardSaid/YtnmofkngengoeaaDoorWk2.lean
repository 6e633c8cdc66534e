/- The walk of LexiStands of layer 29 (lexi), over the translation. -/
import Derived.Test.YtnmofkngengoeaaDoorFne
import Derived.Test.YtnmofkngengoeaaDoorSmath
namespace Go.Proofs.YtnmofkngengoeaaDoor
open Go.RowKit Go.PlainAid

theorem allL_ne (s : ByteArray) : ∀ n i acc a c, allL s n i acc = .er a c → i ≤ s.size → 0 < n + i ∧ s.size + 1 ≤ n + i → c ≠ 0 := by
  intro n
  induction n with
  | zero => intro i acc a c _ hi hn; omega
  | succ n ih =>
    intro i acc a c h hi hn
    rw [allL] at h
    cases hx : nextS s i with
    | er a2 c2 => rw [hx] at h; injection h with e1 e2; rw [← e2]; exact next_er hx
    | ok k v x p nx =>
      rw [hx] at h
      have hm := next_more hi hx
      by_cases h5 : k = 5
      · simp [h5] at h
      · have h' : allL s n nx (acc ++ [(k, v, x, p)]) = .er a c := by simpa only [h5, if_false] using h
        exact ih nx _ a c h' hm.1 (by have := hm.2 h5; omega)
theorem all_ne {s : ByteArray} {a : Nat} {c : Int} (h : allS s = .er a c) : c ≠ 0 := by
  unfold allS at h
  split at h
  · injection h with e1 e2; rw [← e2]; decide
  · exact allL_ne s _ _ _ a c h (Nat.zero_le _) (by omega)
theorem neq_tk (a b : Int) (x : ByteArray) (c : Int) (w : World) : (binOp .neq 24 (.agg #[.int .i64 a, .int .i64 b, .string x, .int .i64 c]) (.agg #[.int .i64 a, .int .i64 b, .string x, .int .i64 c])).run Tryd.prog w = .ok (.bool false) w := by
  have u3 := Tryd.underlying3
  have u9 := Tryd.underlying9
  have hS : Tryd.prog.underlying 24 = some (.struct (Tryd.prog.fieldsOf 24)) := by kernel_rfl
  have hp : Tryd.prog.stoodInHeld 24 = false := by kernel_rfl
  rw [run_neq_struct, show (10000 : Nat) = 9999 + 1 from rfl, run_equalIn_agg w 9999 24 _ _ hS hp]
  simp only [Program.fieldsOf, Tryd.underlying24]
  go_simp
set_option maxRecDepth 100000 in
set_option maxHeartbeats 8000000 in
theorem lexiStands_walk (s : ByteArray) (w : World) (hG : Glob w) : Calls Tryd.prog 6 #[.string s] w fun e w' => e = .returned (.bool true) ∧ Below w.heap.size w w' := by
  have HG := Lib.hid hG
  clear hG
  by_cases hl : 1500 < s.size
  · have hl' : (1500 : Int) < (s.size : Int) := by omega
    go_enter Tryd.func6, Tryd.ntmps6
    go_wp2_with (go_at_call 8; refine (law_lives w HG.out).mono ?_; rintro e w2 ⟨rfl, hb2⟩)
    go_ret
    exact ⟨rfl, hb2⟩
  · have hl' : ¬ (1500 : Int) < (s.size : Int) := by omega
    have HA := Lib.hid (lx_All s w HG.out (by omega))
    cases hs : allS s with
    | er a c =>
      have hc := all_ne hs
      have hcb : (c == 0) = false := by simp [hc]
      have HA2 : Hid (Calls Tryd.prog 14 #[.string s] w fun e w' => e = .returned (.tuple #[.slice none 0 0, .int .i64 (a : Int), .int .i64 c]) ∧ Below w.heap.size w w') := Lib.hid (HA.out.mono fun e w' h => all_er h hs)
      clear HA hc hs
      go_enter Tryd.func6, Tryd.ntmps6
      go_wp2_with (first | (go_at_call 14; refine HA2.out.mono ?_; rintro e w1 ⟨rfl, hb1⟩) | (go_at_call 8; refine (law_lives _ (HG.out.step hb1)).mono ?_; rintro e w2 ⟨rfl, hb2⟩))
      go_ret
      exact ⟨rfl, bt hb1 hb2⟩
    | ok l =>
      have HA2 : Hid (Calls Tryd.prog 14 #[.string s] w fun e w' => ∃ A c, e = .returned (.tuple #[.slice A l.length c, .int .i64 0, .int .i64 0]) ∧ RT w' A l ∧ Below w.heap.size w w' ∧ l.length ≤ s.size) := Lib.hid (HA.out.mono fun e w' h => by
        obtain ⟨A, c, h1, h2, h3, h4⟩ := all_ok h hs
        exact ⟨A, c, h1, h2, h3, h4⟩)
      have HS := Lib.hid (all_says hs)
      clear HA hs
      go_enter Tryd.func6, Tryd.ntmps6
      go_wp2_with (go_at_call 14; refine HA2.out.mono ?_; rintro e w1 ⟨A1, c1, rfl, hr1, hb1, hl1⟩; have HR1 := Lib.hid hr1; clear hr1)
      go_loopw [6, 7] (fun at' i wr => ∃ k : Nat, k ≤ l.length ∧ i = .int .i64 (k : Int) ∧ at' = .int .i64 (posT l k : Int) ∧ Below w1.heap.size w1 wr) (fun _ i _ => l.length - (intOf i).toNat)
      case atStart => exact ⟨0, Nat.zero_le _, rfl, rfl, Below.refl _ _⟩
      case round =>
        obtain ⟨k, hk, rfl, rfl, hb⟩ := hrel
        by_cases hlt : k < l.length
        · have h1 : (k : Int) < (l.length : Int) := by omega
          obtain ⟨g1, g2, g3, g4, g5, g6, g7⟩ := HS.out.2 k hlt
          obtain ⟨b, rfl, hB, hc⟩ := HR1.out (by omega)
          obtain ⟨c0, c1', c2, c3⟩ := hc k hlt
          obtain ⟨e, he⟩ : ∃ e, posT l (k + 1) = e := ⟨_, rfl⟩
          obtain ⟨p, hp⟩ : ∃ p, posT l k = p := ⟨_, rfl⟩
          have HE := Lib.hid he
          rw [he] at g3 g4 g5 g7
          rw [hp] at g1 g2 ⊢
          clear hc he hp
          generalize tkAt l k = t at *
          obtain ⟨t1, t2, x, a⟩ := t
          dsimp only at g1 g3 g4 g5 g6 g7 c0 c1' c2 c3
          subst g3
          have d0 := (hb.cell (p := ⟨b, k * 4, none⟩) hB).trans c0
          have d1 := (hb.cell (p := ⟨b, k * 4 + 1, none⟩) hB).trans c1'
          have d2 := (hb.cell (p := ⟨b, k * 4 + 2, none⟩) hB).trans c2
          have d3 := (hb.cell (p := ⟨b, k * 4 + 3, none⟩) hB).trans c3
          clear c0 c1' c2 c3
          have HBL : Hid (∀ w, Calls Tryd.prog 21 #[.string s, .int .i64 (p : Int)] w fun e w' => e = .returned (.int .i64 (a : Int)) ∧ w' = w) := Lib.hid (fun w => by
            have h := rf_Blank s p w (by omega) g2
            rw [← g1] at h
            exact h.mono fun _ _ h => ⟨h.1, h.2.symm⟩)
          have HN : Hid (∀ w, Glob w → Calls Tryd.prog 9 #[.string s, .int .i64 (a : Int)] w fun en w' => en = .returned (.tuple #[.agg #[.int .i64 t1, .int .i64 t2, .string x, .int .i64 (a : Int)], .int .i64 ((a + x.size : Nat) : Int), .int .i64 0]) ∧ Below w.heap.size w w') := Lib.hid (fun w hG => by
            have h := lx_Next s a w hG (by omega) (by omega)
            rw [g7] at h
            exact h)
          have hne1 : ¬ x.toList = [] := fun e => by
            have h := congrArg List.length e
            rw [ByteArray.toList_eq] at h
            have h2 : x.size = 0 := h
            omega
          have hne2 : x.toList.isEmpty = false := by
            cases h : x.toList with
            | nil => exact absurd h hne1
            | cons _ _ => rfl
          have k1 : (0 : Int) ≤ (a : Int) := by omega
          have k2 : (a : Int) + (x.size : Int) ≤ (s.size : Int) := by omega
          have k3 : (a : Int) ≤ (a : Int) + (x.size : Int) := by omega
          have k4 : ¬ (s.size : Int) < (a : Int) + (x.size : Int) := by omega
          have k5 : ((a : Int) + (x.size : Int)).toNat = a + x.size := by omega
          have k6 : IntKind.i64.wrap ((a : Int) + (x.size : Int)) = (a : Int) + (x.size : Int) := IntWalk.i64_in _ (by omega)
          clear g1 g2 g7
          go_wp2_with fail
          go_quiet ((go_at_call 21; exact Calls.quiet_of_same (HBL.out _)))
          go_wp2_with fail
          go_quiet (fail)
          have HQ : Hid (∀ n, Below w1.heap.size w1 (wr.drewN n)) := Lib.hid (fun n => below_drewN hb n)
          have NEQ := fun W => neq_tk t1 t2 x (a : Int) W
          go_upto_region 14 with (go_at_call 9; (refine (HN.out _ (HG.out.step (hb1.trans ((HQ.out _).mono hb1.size)))).mono ?_); rintro e w2 ⟨rfl, hb2⟩; have hb3 := (HQ.out _).trans (hb2.mono (HQ.out _).size); have HB3 := Lib.hid hb3; clear hb2 hb3)
          have e0 := (HB3.out.cell (p := ⟨b, k * 4, none⟩) hB).trans ((hb.cell (p := ⟨b, k * 4, none⟩) hB).symm.trans d0)
          have e1 := (HB3.out.cell (p := ⟨b, k * 4 + 1, none⟩) hB).trans ((hb.cell (p := ⟨b, k * 4 + 1, none⟩) hB).symm.trans d1)
          have e2 := (HB3.out.cell (p := ⟨b, k * 4 + 2, none⟩) hB).trans ((hb.cell (p := ⟨b, k * 4 + 2, none⟩) hB).symm.trans d2)
          have e3 := (HB3.out.cell (p := ⟨b, k * 4 + 3, none⟩) hB).trans ((hb.cell (p := ⟨b, k * 4 + 3, none⟩) hB).symm.trans d3)
          have hb4 := al HB3.out (.cells #[.int .i64 t1, .int .i64 t2, .string x, .int .i64 (a : Int)] 24)
          have HB4 := Lib.hid hb4
          have hlt2 : b < w2.heap.size := Nat.lt_of_lt_of_le hB HB3.out.size
          clear hb4 d0 d1 d2 d3
          go_quiet (fail)
          go_wp2
          go_roundw
          case rel => exact ⟨k + 1, by omega, by go_num, by rw [HE.out]; go_num, below_drewN HB4.out _⟩
          case measure => simp [intOf]; try omega
        · obtain rfl : k = l.length := by omega
          have h1 : ¬ (l.length : Int) < (l.length : Int) := by omega
          have HBL : Hid (∀ w, Calls Tryd.prog 21 #[.string s, .int .i64 (posT l l.length : Int)] w fun e w' => e = .returned (.int .i64 (s.size : Int)) ∧ w = w') := Lib.hid (fun w => by
            have h := rf_Blank s (posT l l.length) w (by omega) (by
              rcases Nat.eq_zero_or_pos l.length with h0 | h0
              · rw [h0]; exact Nat.zero_le _
              · obtain ⟨j, hj⟩ : ∃ j, l.length = j + 1 := ⟨l.length - 1, by omega⟩
                rw [hj]; exact (HS.out.2 j (by omega)).2.2.2.1)
            rw [HS.out.1] at h
            exact h)
          have HGW : Hid (Glob wr) := Lib.hid (HG.out.step (hb1.trans (hb.mono hb1.size)))
          go_wp2_with (first | (go_at_call 21; (with_reducible refine (HBL.out _).mono ?_); rintro e w2 ⟨rfl, rfl⟩) | (go_at_call 8; refine (law_lives _ HGW.out).mono ?_; rintro e w3 ⟨rfl, hb3⟩; have HB3 := Lib.hid hb3; clear hb3))
          go_ret
          exact ⟨rfl, (hb1.trans (hb.mono hb1.size)).trans (HB3.out.mono (hb1.trans (hb.mono hb1.size)).size)⟩
end Go.Proofs.YtnmofkngengoeaaDoor
