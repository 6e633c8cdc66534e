/- Contracts of Words, of the specification's Is and Texts, and the walk of LexiNames of layer 29 (lexi), over the translation. -/
import Derived.Test.YtnmofkngengoeaaDoorFnc
namespace Go.Proofs.YtnmofkngengoeaaDoor
open Go.RowKit Go.PlainAid

def OwnS (w : World) (base : Nat) (v : Value) (l : List ByteArray) : Prop := w.ownsRow base 9 1 v l.length (l.map Value.string)
theorem OwnS.block {w : World} {base : Nat} {v : Value} {l : List ByteArray} (h : OwnS w base v l) (k : Nat) (e : v.ownBlock = some k) : base ≤ k := by
  rcases h.2 with ⟨rfl, _⟩ | ⟨g, cap, cur, rfl, hg, _⟩
  · simp [Value.ownBlock] at e
  · simp [Value.ownBlock] at e; omega
theorem OwnS.push {w : World} {base : Nat} {v : Value} {l : List ByteArray} {b : ByteArray} (h : w.ownsRow base 9 1 v (l.length + 1) (l.map Value.string ++ [.string b])) : OwnS w base v (l ++ [b]) := by
  unfold OwnS; simpa using h
theorem OwnS.grow2 {w wr w1 : World} {B : Nat} {v : Value} {l : List ByteArray} {o : Obj} (hO : OwnS wr B v l) (hb : Below B w wr) (hB : B ≤ wr.heap.size) (hg : (wr.alloc o).grownBy w1 v.ownBlock) : Below B w w1 :=
  (hb.alloc hB _).grown hg (by simp; omega) (fun k e => hO.block k e)
theorem OwnS.rs {w : World} {base : Nat} {v : Value} {l : List ByteArray} (h : OwnS w base v l) (hl : 0 < l.length) : ∃ A c, v = .slice A l.length c ∧ RS w A l := by
  rcases h.2 with ⟨rfl, h0⟩ | ⟨g, cap, cur, rfl, hg, hh, hn, hc, hsz, htk⟩
  · omega
  · refine ⟨_, cap, rfl, g, rfl, ?_, fun j v hv => ?_⟩
    · rcases Nat.lt_or_ge g w.heap.size with hlt | hge
      · exact hlt
      · rw [Array.getElem?_eq_none hge] at hh; cases hh
    · rw [cell_of_row w g (0 + j) cur 9 (0, 0) hh, Nat.zero_add]
      rw [← htk, List.getElem?_take] at hv
      split at hv
      · simpa using hv
      · cases hv
theorem info9 : (Tryd.prog.info? 9).map (fun i => (i.zero, i.size, i.bytes)) = some (some (.string { data := #[] }), 1, 16) := by kernel_rfl
theorem made24 (w : World) (cur : Array Value) (h : cur.size = 24) : OwnS (w.alloc (.cells cur 9)) w.heap.size (.slice (some ⟨w.heap.size, 0, none⟩) 0 24) [] :=
  ⟨rfl, .inr ⟨w.heap.size, 24, cur, rfl, Nat.le_refl _, heap_alloc_new w _, by decide, by unfold maxLen; decide, by rw [h], by simp⟩⟩
set_option maxRecDepth 100000 in
set_option maxHeartbeats 4000000 in
theorem lx_Words (w : World) (hG : Glob w) : Calls Tryd.prog 19 #[] w fun e w' => ∃ A c, e = .returned (.slice A 24 c) ∧ RS w' A words ∧ Below w.heap.size w w' := by
  obtain ⟨i0, hi0, hy0, hy1, hy2⟩ := info_parts info9
  obtain ⟨Z, hZ⟩ : ∃ Z, words.map Value.string = Z := ⟨_, rfl⟩
  have hix := fun k hk w => index_words k hk w
  have HG := Lib.hid (fun cur => (hG.step ((Below.refl _ w).alloc (Nat.le_refl _) (.cells cur 9))).ws)
  have hsz : (Tryd.prog.info? 56).map (·.size) = some (words.map Value.string).length := by kernel_rfl
  rw [hZ] at hix hsz HG
  have HIX := Lib.hid hix
  have HSZ := Lib.hid hsz
  clear hix hsz hZ
  obtain ⟨M, hM⟩ : ∃ M : Array Value, (⟨List.replicate 24 (Value.string { data := #[] })⟩ : Array Value) = M := ⟨_, rfl⟩
  have hmk : (Instr.makeSlice 42 (.int .i64 0) (.int .i64 24)).run Tryd.prog w = .ok (.slice (some ⟨w.heap.size, 0, none⟩) 0 24) (w.alloc (.cells M 9)) := by rw [← hM]; kernel_rfl
  have hMs : M.size = 24 := by rw [← hM]; rfl
  have HM0 := Lib.hid (made24 w M hMs)
  clear hM hMs
  go_enter Tryd.func19, Tryd.ntmps19
  go_wp2_with (refine wpList_load_mid rfl 56 (.global 0) rfl 0 0 rfl Z _ (HG.out M) Tryd.underlying56 rfl HSZ.out ?_)
  go_loopw [1, 6] (fun v i wr => ∃ k : Nat, k ≤ 24 ∧ i = .int .i64 (k : Int) ∧ Hid (OwnS wr w.heap.size v (words.take k)) ∧ Below w.heap.size w wr) (fun _ i _ => 24 - (intOf i).toNat)
  case atStart => exact ⟨0, Nat.zero_le _, rfl, HM0, (Below.refl _ _).alloc (Nat.le_refl _) _⟩
  case round =>
    obtain ⟨k, hk, rfl, HO, hb⟩ := hrel
    have hszw := hb.size
    by_cases hlt : k < 24
    · have h1 : (k : Int) < 24 := by omega
      have hi := fun w => HIX.out k hlt w
      have hs : words.take (k + 1) = words.take k ++ [words.getD k ByteArray.empty] := by
        rw [List.take_succ_eq_append_getElem (show k < words.length by rw [words_len]; exact hlt)]
        simp [List.getD, List.getElem?_eq_getElem (show k < words.length by rw [words_len]; exact hlt)]
      have HS := Lib.hid hs
      have hlk : (words.take k).length = k := by rw [List.length_take, words_len]; omega
      have hmx : (words.take k).length + 1 ≤ maxLen := by unfold maxLen; omega
      have hby : ((words.take k).length + 1) * 16 ≤ 140737488355328 := by omega
      generalize words.getD k ByteArray.empty = y at *
      clear hs hlk
      go_wp2_with (at_builtin; refine wpList_append_own _ rfl _ _ 42 rfl w.heap.size 9 i0 _ 1 16 Tryd.underlying42 hi0 hy0 hy1 hy2 rfl (by decide) _ _ _ rfl (World.ownsRow.alloc HO.out _) ⟨wr.heap.size, 0, none⟩ 1 1 [.string y] rfl rfl (cell_one_new _ _ _) (by simp [Value.oneCell']) hmx hby (by simp; omega) ?_; intro v2 w5 hown hgr _; have HP := Lib.hid (OwnS.push hown); have HB5 := Lib.hid (HO.out.grow2 hb hszw hgr); clear hown hgr)
      have HP2 : Hid (OwnS w5 w.heap.size v2 (words.take (k + 1))) := Lib.hid (by rw [HS.out]; exact HP.out)
      go_roundw
      case rel => exact ⟨k + 1, by omega, by go_num, HP2, HB5.out⟩
      case measure => simp [intOf]; try omega
    · have h1 : ¬ (k : Int) < 24 := by omega
      obtain rfl : k = 24 := by omega
      have hO2 : OwnS wr w.heap.size u1 words := HO.out
      obtain ⟨A, c, rfl, hR⟩ := hO2.rs (by decide)
      have HR := Lib.hid hR
      clear hO2 hR HO
      go_wp2
      go_ret
      exact ⟨A, ⟨c, rfl⟩, HR.out, hb⟩
set_option maxHeartbeats 2000000 in
theorem rf_Texts (A B : Option Addr) (ca cb : Nat) (w : World) (hA : RS w A words) (hB : RS w B words) :
    Calls Tryd.prog 18 #[.slice A 24 ca, .slice B 24 cb] w fun e w' => e = .returned (.bool true) ∧ Below w.heap.size w w' := by
  have HA := Lib.hid hA
  have HB := Lib.hid hB
  clear hA hB
  go_enter Tryd.func18, Tryd.ntmps18
  go_wp2
  go_loopw [5] (fun i wr => ∃ (k : Nat), k ≤ 24 ∧ i = .int .i64 (k : Int) ∧ Below w.heap.size w wr) (fun i _ => 24 - (intOf i).toNat)
  case atStart => exact ⟨0, Nat.zero_le _, rfl, Below.refl _ _⟩
  case round =>
    obtain ⟨k, hk, rfl, hb⟩ := hrel
    by_cases hlt : k < 24
    · have h1 : (k : Int) < 24 := by omega
      have h0 : (0 : Int) ≤ (k : Int) := by omega
      obtain ⟨b1, rfl, hc1⟩ := (HA.out.step hb).at
      obtain ⟨b2, rfl, hc2⟩ := (HB.out.step hb).at
      have c1 := hc1 k (by rw [words_len]; exact hlt)
      have c2 := hc2 k (by rw [words_len]; exact hlt)
      generalize words.getD k ByteArray.empty = y at *
      clear hc1 hc2
      go_wp2_with fail
      go_quiet (fail)
      go_wp2
      go_roundw
      case rel => exact ⟨k + 1, by omega, by go_num, below_drewN hb _⟩
      case measure => simp [intOf]; try omega
    · have h1 : ¬ (k : Int) < 24 := by omega
      go_wp2
      go_ret
      exact ⟨rfl, hb⟩
set_option maxHeartbeats 4000000 in
theorem rf_Is (s : ByteArray) (w : World) (hs : s.size ≤ 4000000000000000000) : Calls Tryd.prog 17 #[.string s] w fun e w' => e = .returned (.bool (isS s)) ∧ Below w.heap.size w w' := by
  rcases Nat.eq_zero_or_pos s.size with h0 | h0
  · have HX : Hid (isS s = false) := Lib.hid (by unfold isS; simp [h0])
    have h1 : ¬ (1 : Int) ≤ (s.size : Int) := by omega
    go_enter Tryd.func17, Tryd.ntmps17
    go_wp2
    go_ret
    exact ⟨by rw [HX.out]; rfl, Below.refl _ _⟩
  · have h1 : (1 : Int) ≤ (s.size : Int) := by omega
    by_cases h24 : s.size ≤ 24
    · have h24' : (s.size : Int) ≤ (24 : Int) := by omega
      have hb := get_bt s
      have HL := Lib.hid (rf_letter (bt s 0) w)
      have HS := Lib.hid (rf_row s 0 false w hs (by omega))
      obtain ⟨ans, hans⟩ : ∃ a, isS s = a := ⟨_, rfl⟩
      rw [hans]
      unfold isS at hans
      rw [decide_eq_true h0, decide_eq_true h24] at hans
      have HANS := Lib.hid hans
      obtain ⟨a, ha⟩ : ∃ a, letQ (bt s 0) = a := ⟨_, rfl⟩
      obtain ⟨n, hn⟩ : ∃ n, span namQ s 0 = n := ⟨_, rfl⟩
      obtain ⟨q, hq⟩ : ∃ q, wordQ s = q := ⟨_, rfl⟩
      rw [ha, hn, hq] at HANS
      rw [ha] at HL
      rw [show span (if false = true then digQ else namQ) s 0 = n from hn] at HS
      have HAM : Hid (∀ A w, RS w A words → Calls Tryd.prog 31 #[.slice A 24 24, .string s] w fun e w' => e = .returned (.bool q) ∧ w = w') := Lib.hid (fun A w h => by
        have h := rf_among A s w h; rwa [hq] at h)
      have HS2 : Hid (Calls Tryd.prog 30 #[.string s, .int .i64 0, .bool false] w fun e w' => e = .returned (.int .i64 (n : Int)) ∧ w = w') := HS
      clear hans ha hn hq HS
      obtain ⟨c, hc, hc2⟩ : ∃ c, ((n : Int) == (s.size : Int)) = c ∧ decide (n = s.size) = c := by
        refine ⟨_, rfl, ?_⟩
        by_cases h : n = s.size
        · subst h; simp
        · rw [decide_eq_false h]; symm; rw [beq_eq_false_iff_ne]; omega
      rw [hc2] at HANS
      clear hc2
      cases a <;> cases c <;> cases q
      all_goals
        go_enter Tryd.func17, Tryd.ntmps17
        go_wp2_with (first | (go_at_call 29; with_reducible refine HL.out.mono ?_; rintro e w9 ⟨rfl, rfl⟩) | (go_at_call 30; with_reducible refine HS2.out.mono ?_; rintro e w9 ⟨rfl, rfl⟩) | (go_at_call 20; refine (rf_Words w).mono ?_; rintro e w2 ⟨A2, rfl, hr2, hb2⟩; have HR2 := Lib.hid hr2; have HB2 := Lib.hid hb2; clear hr2 hb2) | (go_at_call 31; refine (HAM.out _ _ HR2.out).mono ?_; rintro e w9 ⟨rfl, rfl⟩))
        go_ret
        exact ⟨by rw [← HANS.out]; rfl, by first | exact HB2.out | exact Below.refl _ _⟩
    · have h24' : ¬ (s.size : Int) ≤ (24 : Int) := by omega
      have HX : Hid (isS s = false) := Lib.hid (by unfold isS; simp [h24])
      go_enter Tryd.func17, Tryd.ntmps17
      go_wp2
      go_ret
      exact ⟨by rw [HX.out]; rfl, Below.refl _ _⟩
set_option maxHeartbeats 4000000 in
theorem lexiNames_walk (s : ByteArray) (w : World) (hG : Glob w) : Calls Tryd.prog 5 #[.string s] w fun e w' => e = .returned (.bool true) ∧ Below w.heap.size w w' := by
  have HG := Lib.hid hG
  clear hG
  by_cases hl : 100 < s.size
  · have hl' : (100 : Int) < (s.size : Int) := by omega
    go_enter Tryd.func5, Tryd.ntmps5
    go_wp2_with (go_at_call 8; refine (law_lives w HG.out).mono ?_; rintro e w2 ⟨rfl, hb2⟩)
    go_ret
    exact ⟨rfl, hb2⟩
  · have hl' : ¬ (100 : Int) < (s.size : Int) := by omega
    have hl2 : (s.size : Int) ≤ (100 : Int) := by omega
    have H1 := Lib.hid (lx_Is s w HG.out)
    have H2 := Lib.hid (rf_Is s w (by omega))
    generalize isS s = q at H1 H2
    go_enter Tryd.func5, Tryd.ntmps5
    go_wp2_with (first
      | (go_at_call 16; with_reducible refine H1.out.mono ?_; rintro e w9 ⟨rfl, rfl⟩)
      | (go_at_call 17; refine H2.out.mono ?_; rintro e w1 ⟨rfl, hb1⟩)
      | (go_at_call 19; refine (lx_Words _ (HG.out.step hb1)).mono ?_; rintro e w2 ⟨A2, c2, rfl, hr2, hb2⟩; have HR2 := Lib.hid hr2; have hk2 := hb1.trans (hb2.mono hb1.size); have HK2 := Lib.hid hk2; clear hr2 hk2)
      | (go_at_call 20; refine (rf_Words w2).mono ?_; rintro e w3 ⟨A3, rfl, hr3, hb3⟩; have HR3 := Lib.hid hr3; have hk3 := HK2.out.trans (hb3.mono HK2.out.size); have HK3 := Lib.hid hk3; have HR2' := Lib.hid (HR2.out.step hb3); clear hr3 hk3)
      | (go_at_call 18; refine (rf_Texts A2 A3 c2 24 w3 HR2'.out HR3.out).mono ?_; rintro e w4 ⟨rfl, hb4⟩; have hk4 := HK3.out.trans (hb4.mono HK3.out.size); have HK4 := Lib.hid hk4; clear hk4)
      | (go_at_call 8; refine (law_lives w4 (HG.out.step HK4.out)).mono ?_; rintro e w5 ⟨rfl, hb5⟩; have hk5 := HK4.out.trans (hb5.mono HK4.out.size); have HK5 := Lib.hid hk5; clear hk5))
    go_ret
    exact ⟨by simp, HK5.out⟩
end Go.Proofs.YtnmofkngengoeaaDoor
