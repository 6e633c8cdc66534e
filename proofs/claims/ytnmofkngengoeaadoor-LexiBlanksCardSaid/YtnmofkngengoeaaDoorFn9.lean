/- Contracts of All of layer 29 (lexi) and of its specification, over the translation. -/
import Derived.Test.YtnmofkngengoeaaDoorFn8
namespace Go.Proofs.YtnmofkngengoeaaDoor
open Go.RowKit Go.PlainAid

theorem cells_four (w : World) (t : TypeId) (l : List Value) (j : Nat) (u : Value) (h : l[j]? = some u) : (w.alloc (.cells l.toArray t)).cell? ((⟨w.heap.size, 0, none⟩ : Addr).add j) = some u := by
  have ha : (⟨w.heap.size, 0, none⟩ : Addr).add j = ⟨w.heap.size, j, none⟩ := by unfold Addr.add; split <;> simp_all
  rw [ha, cell_of_row _ _ j l.toArray t (0, 0) (heap_alloc_new w _)]
  simpa using h
theorem cells_four2 (w : World) (o : Obj) (t : TypeId) (l : List Value) (j : Nat) (u : Value) (h : l[j]? = some u) : ((w.alloc o).alloc (.cells l.toArray t)).cell? ((⟨w.heap.size + 1, 0, none⟩ : Addr).add j) = some u := by
  have h2 := cells_four (w.alloc o) t l j u h
  rwa [show (w.alloc o).heap.size = w.heap.size + 1 by simp] at h2
theorem size_two (w w2 : World) (o o2 : Obj) (h : w.heap.size ≤ w2.heap.size) : w.heap.size ≤ ((w2.alloc o).alloc o2).heap.size := by
  simp; omega
theorem tk_one (t : Tk) : ∀ u ∈ tkCells t, u.oneCell' = true := by
  intro u hu
  unfold tkCells at hu
  simp at hu
  rcases hu with rfl | rfl | rfl | rfl <;> rfl
/-- What All gives. -/
def AllR (t : TypeId) (s : ByteArray) (w : World) (e : Ending) (w' : World) : Prop :=
  Below w.heap.size w w' ∧ ((∃ a c, allS s = .er a c ∧ e = .returned (.tuple #[.slice none 0 0, .int .i64 ((a : Nat) : Int), .int .i64 c])) ∨
    (∃ l v, allS s = .ok l ∧ e = .returned (.tuple #[v, .int .i64 0, .int .i64 0]) ∧ OwnK w' w.heap.size t v l ∧ l.length ≤ s.size))
set_option maxRecDepth 100000 in
set_option maxHeartbeats 4000000 in
theorem lx_All (s : ByteArray) (w : World) (hG : Glob w) (hs : s.size ≤ 4000000000000000000) :
    Calls Tryd.prog 14 #[.string s] w fun e w' => AllR 24 s w e w' := by
  obtain ⟨i0, hi0, hz0, hz1, hz2⟩ := info_parts info24
  by_cases hbig : 65536 < s.size
  · have hb' : (65536 : Int) < (s.size : Int) := by omega
    have HX : Hid (allS s = .er 0 4) := Lib.hid (by unfold allS; rw [if_pos hbig])
    go_enter Tryd.func14, Tryd.ntmps14
    go_wp2
    go_returns
    exact ⟨Below.refl _ _, .inl ⟨0, 4, HX.out, rfl⟩⟩
  · have hb' : ¬ (65536 : Int) < (s.size : Int) := by omega
    have hsz : s.size ≤ 65536 := by omega
    obtain ⟨R, hR⟩ : ∃ R, allS s = R := ⟨_, rfl⟩
    have hR2 : allL s (s.size + 1) 0 [] = R := by rw [← hR]; unfold allS; rw [if_neg hbig]
    have HR := Lib.hid hR
    have HR2 := Lib.hid hR2
    have HG := Lib.hid hG
    clear hR hR2 hG hbig
    go_enter Tryd.func14, Tryd.ntmps14
    go_wp2
    go_loopw [2, 3, 4, 5] (fun v r3 r4 i wr => ∃ (at' n : Nat) (acc : List Tk), r3 = .int .i64 0 ∧ r4 = .int .i64 0 ∧ i = .int .i64 (at' : Int) ∧ at' ≤ s.size ∧ acc.length ≤ at' ∧ Hid (s.size + 1 ≤ n + at' ∧ allL s n at' acc = R ∧ OwnK wr w.heap.size 24 v acc) ∧ Below w.heap.size w wr) (fun _ _ _ i _ => s.size - (intOf i).toNat)
    case atStart => exact ⟨0, s.size + 1, [], rfl, rfl, rfl, Nat.zero_le _, by simp, Lib.hid ⟨by omega, HR2.out, OwnK.nil _ _ _⟩, Below.refl _ _⟩
    case round =>
      obtain ⟨p, n, acc, rfl, rfl, rfl, hp, hacc, HT, hb⟩ := hrel
      have hszw := hb.size
      have HNX := Lib.hid (lx_Next s p wr (HG.out.step hb) hs hp)
      obtain ⟨A, ca, rfl⟩ := HT.out.2.2.slice
      obtain ⟨n, rfl⟩ : ∃ k, n = k + 1 := ⟨n - 1, by have := HT.out.1; omega⟩
      have hstep := HT.out.2.1
      rw [allL] at hstep
      cases hnx : nextS s p with
      | er a c =>
        have hc := next_er hnx
        rw [hnx] at hstep HNX
        have HX := Lib.hid (show R = .er a c from hstep.symm)
        have hcb : (c == 0) = false := by simp [hc]
        have HN2 : Hid (Calls Tryd.prog 9 #[.string s, .int .i64 (p : Int)] wr fun en w' => en = .returned (.tuple #[.agg #[.int .i64 0, .int .i64 0, .string { data := #[] }, .int .i64 0], .int .i64 (a : Int), .int .i64 c]) ∧ Below wr.heap.size wr w') := HNX
        clear hstep hnx HNX
        go_wp2_with (go_at_call 9; refine HN2.out.mono ?_; rintro e w2 ⟨rfl, hb2⟩; have hb3 : Below w.heap.size w w2 := hb.trans (hb2.mono hszw); have HB3 := Lib.hid hb3; have HB2 := Lib.hid hb2; clear hb3 hb2)
        go_returns
        exact ⟨by exact HB3.out.alloc HB3.out.size _, .inl ⟨a, c, by rw [HR.out, HX.out], rfl⟩⟩
      | ok k v x a nx =>
        have hmore := next_more hp hnx
        rw [hnx] at hstep HNX
        have HN2 : Hid (Calls Tryd.prog 9 #[.string s, .int .i64 (p : Int)] wr fun en w' => en = .returned (.tuple #[.agg #[.int .i64 k, .int .i64 v, .string x, .int .i64 (a : Int)], .int .i64 (nx : Int), .int .i64 0]) ∧ Below wr.heap.size wr w') := HNX
        clear hnx HNX
        by_cases hk : k = 5
        · have hs2 : (if k = 5 then Ra.ok acc else allL s n nx (acc ++ [(k, v, x, a)])) = R := hstep
          rw [if_pos hk] at hs2
          have HX := Lib.hid hs2.symm
          have hkb : (k == 5) = true := by simp [hk]
          clear hstep hs2
          go_wp2_with (go_at_call 9; refine HN2.out.mono ?_; rintro e w2 ⟨rfl, hb2⟩; have hb3 : Below w.heap.size w w2 := hb.trans (hb2.mono hszw); have HB3 := Lib.hid hb3; have HB2 := Lib.hid hb2; clear hb3 hb2)
          go_returns
          refine ⟨by exact HB3.out.alloc HB3.out.size _, .inr ⟨acc, _, by rw [HR.out, HX.out], rfl, ?_, by omega⟩⟩
          exact (HT.out.2.2.keep HB2.out).keep ((Below.refl _ _).alloc (Nat.le_refl _) _)
        · have hs2 : (if k = 5 then Ra.ok acc else allL s n nx (acc ++ [(k, v, x, a)])) = R := hstep
          rw [if_neg hk] at hs2
          have HX := Lib.hid hs2
          have hkb : (k == 5) = false := by simp [hk]
          have hlt := hmore.2 hk
          have hmx : acc.length + 1 ≤ maxLen := by unfold maxLen; omega
          have hby : (acc.length + 1) * 40 ≤ 140737488355328 := by omega
          clear hstep hs2
          go_wp2_with (first
            | (go_at_call 9; refine HN2.out.mono ?_; rintro e w2 ⟨rfl, hb2⟩; have hb3 : Below w.heap.size w w2 := hb.trans (hb2.mono hszw); have HB3 := Lib.hid hb3; have hO2 := (HT.out.2.2.keep hb2).keep ((Below.refl _ _).alloc (Nat.le_refl _) (.cells #[.int .i64 k, .int .i64 v, .string x, .int .i64 (a : Int)] 24)); have HO2 := Lib.hid hO2; have hB4 := hb3.alloc hb3.size (.cells #[.int .i64 k, .int .i64 v, .string x, .int .i64 (a : Int)] 24); have HB4 := Lib.hid hB4; have hsz4 := hB4.size; have HSZ4 := Lib.hid hsz4; have HSZ3 := Lib.hid hb3.size; clear hb3 hb2 hO2 hB4 hsz4)
            | (at_builtin; refine wpList_append_own _ rfl _ _ 34 rfl w.heap.size 24 i0 _ 4 40 Tryd.underlying34 hi0 hz0 hz1 hz2 rfl (by decide) _ _ _ rfl (World.ownsRow.alloc HO2.out _) ⟨w2.heap.size + 1, 0, none⟩ 1 1 (tkCells (k, v, x, a)) rfl rfl (cells_four2 w2 _ 24 (tkCells (k, v, x, a))) (tk_one _) hmx hby (size_two _ _ _ _ HSZ3.out) ?_; intro v2 w5 hown hgr _; have HP := Lib.hid (OwnK.push hown); have HB5 := Lib.hid (HO2.out.grow2 HB4.out HSZ4.out hgr); clear hown hgr))
          go_roundw
          case rel => exact ⟨nx, n, acc ++ [(k, v, x, a)], rfl, rfl, rfl, hmore.1, by simp; omega, Lib.hid ⟨by have := HT.out.1; omega, HX.out, HP.out⟩, HB5.out⟩
          case measure => simp [intOf]; try omega
theorem OwnK.empty (w : World) (t : TypeId) : OwnK (w.alloc (.cells #[] t)) w.heap.size t (.slice (some ⟨w.heap.size, 0, none⟩) 0 0) [] := by
  refine ⟨rfl, .inr ⟨w.heap.size, 0, #[], rfl, Nat.le_refl _, ?_, Nat.le_refl _, Nat.zero_le _, rfl, rfl⟩⟩
  exact heap_alloc_new w _
set_option maxRecDepth 100000 in
set_option maxHeartbeats 4000000 in
theorem rf_All (s : ByteArray) (w : World) (hs : s.size ≤ 4000000000000000000) :
    Calls Tryd.prog 15 #[.string s] w fun e w' => AllR 28 s w e w' := by
  obtain ⟨i0, hi0, hz0, hz1, hz2⟩ := info_parts info28
  by_cases hbig : 65536 < s.size
  · have hb' : (65536 : Int) < (s.size : Int) := by omega
    have HX : Hid (allS s = .er 0 4) := Lib.hid (by unfold allS; rw [if_pos hbig])
    go_enter Tryd.func15, Tryd.ntmps15
    go_wp2
    go_returns
    exact ⟨Below.refl _ _, .inl ⟨0, 4, HX.out, rfl⟩⟩
  · have hb' : ¬ (65536 : Int) < (s.size : Int) := by omega
    have hsz : s.size ≤ 65536 := by omega
    obtain ⟨R, hR⟩ : ∃ R, allS s = R := ⟨_, rfl⟩
    have hR2 : allL s (s.size + 1) 0 [] = R := by rw [← hR]; unfold allS; rw [if_neg hbig]
    have HR := Lib.hid hR
    have HR2 := Lib.hid hR2
    clear hR hR2 hbig
    go_enter Tryd.func15, Tryd.ntmps15
    go_wp2
    go_loopw [2, 3, 4, 5, 6] (fun r2 r3 r4 v i wr => ∃ (at' n : Nat) (acc : List Tk), r2 = .slice none 0 0 ∧ r3 = .int .i64 0 ∧ r4 = .int .i64 0 ∧ i = .int .i64 (at' : Int) ∧ at' ≤ s.size ∧ acc.length ≤ at' ∧ Hid (s.size + 1 ≤ n + at' ∧ allL s n at' acc = R ∧ OwnK wr w.heap.size 28 v acc) ∧ Below w.heap.size w wr) (fun _ _ _ _ i _ => s.size - (intOf i).toNat)
    case atStart => exact ⟨0, s.size + 1, [], rfl, rfl, rfl, rfl, Nat.zero_le _, by simp, Lib.hid ⟨by omega, HR2.out, OwnK.empty w 28⟩, (Below.refl _ _).alloc (Nat.le_refl _) _⟩
    case round =>
      obtain ⟨p, n, acc, rfl, rfl, rfl, rfl, hp, hacc, HT, hb⟩ := hrel
      have hszw := hb.size
      have HNX := Lib.hid (rf_Next s p wr hs hp)
      obtain ⟨A, ca, rfl⟩ := HT.out.2.2.slice
      obtain ⟨n, rfl⟩ : ∃ k, n = k + 1 := ⟨n - 1, by have := HT.out.1; omega⟩
      have hstep := HT.out.2.1
      rw [allL] at hstep
      cases hnx : nextS s p with
      | er a c =>
        have hc := next_er hnx
        rw [hnx] at hstep HNX
        have HX := Lib.hid (show R = .er a c from hstep.symm)
        have hcb : (c == 0) = false := by simp [hc]
        have HN2 : Hid (Calls Tryd.prog 10 #[.string s, .int .i64 (p : Int)] wr fun en w' => en = .returned (.tuple #[.agg #[.int .i64 0, .int .i64 0, .string { data := #[] }, .int .i64 0], .int .i64 (a : Int), .int .i64 c]) ∧ Below wr.heap.size wr w') := HNX
        clear hstep hnx HNX
        go_wp2_with (go_at_call 10; refine HN2.out.mono ?_; rintro e w2 ⟨rfl, hb2⟩; have hb3 : Below w.heap.size w w2 := hb.trans (hb2.mono hszw); have HB3 := Lib.hid hb3; have HB2 := Lib.hid hb2; clear hb3 hb2)
        go_returns
        exact ⟨by exact HB3.out.alloc HB3.out.size _, .inl ⟨a, c, by rw [HR.out, HX.out], rfl⟩⟩
      | ok k v x a nx =>
        have hmore := next_more hp hnx
        rw [hnx] at hstep HNX
        have HN2 : Hid (Calls Tryd.prog 10 #[.string s, .int .i64 (p : Int)] wr fun en w' => en = .returned (.tuple #[.agg #[.int .i64 k, .int .i64 v, .string x, .int .i64 (a : Int)], .int .i64 (nx : Int), .int .i64 0]) ∧ Below wr.heap.size wr w') := HNX
        clear hnx HNX
        by_cases hk : k = 5
        · have hs2 : (if k = 5 then Ra.ok acc else allL s n nx (acc ++ [(k, v, x, a)])) = R := hstep
          rw [if_pos hk] at hs2
          have HX := Lib.hid hs2.symm
          have hkb : (k == 5) = true := by simp [hk]
          clear hstep hs2
          go_wp2_with (go_at_call 10; refine HN2.out.mono ?_; rintro e w2 ⟨rfl, hb2⟩; have hb3 : Below w.heap.size w w2 := hb.trans (hb2.mono hszw); have HB3 := Lib.hid hb3; have HB2 := Lib.hid hb2; clear hb3 hb2)
          go_returns
          refine ⟨by exact HB3.out.alloc HB3.out.size _, .inr ⟨acc, _, by rw [HR.out, HX.out], rfl, ?_, by omega⟩⟩
          exact (HT.out.2.2.keep HB2.out).keep ((Below.refl _ _).alloc (Nat.le_refl _) _)
        · have hs2 : (if k = 5 then Ra.ok acc else allL s n nx (acc ++ [(k, v, x, a)])) = R := hstep
          rw [if_neg hk] at hs2
          have HX := Lib.hid hs2
          have hkb : (k == 5) = false := by simp [hk]
          have hlt := hmore.2 hk
          have hmx : acc.length + 1 ≤ maxLen := by unfold maxLen; omega
          have hby : (acc.length + 1) * 40 ≤ 140737488355328 := by omega
          clear hstep hs2
          go_wp2_with (first
            | (go_at_call 10; refine HN2.out.mono ?_; rintro e w2 ⟨rfl, hb2⟩; have hb3 : Below w.heap.size w w2 := hb.trans (hb2.mono hszw); have HB3 := Lib.hid hb3; have hO2 := (HT.out.2.2.keep hb2).keep ((Below.refl _ _).alloc (Nat.le_refl _) (.cells #[.int .i64 k, .int .i64 v, .string x, .int .i64 (a : Int)] 28)); have HO2 := Lib.hid hO2; have hB4 := hb3.alloc hb3.size (.cells #[.int .i64 k, .int .i64 v, .string x, .int .i64 (a : Int)] 28); have HB4 := Lib.hid hB4; have hsz4 := hB4.size; have HSZ4 := Lib.hid hsz4; have HSZ3 := Lib.hid hb3.size; clear hb3 hb2 hO2 hB4 hsz4)
            | (at_builtin; refine wpList_append_own _ rfl _ _ 32 rfl w.heap.size 28 i0 _ 4 40 Tryd.underlying32 hi0 hz0 hz1 hz2 rfl (by decide) _ _ _ rfl (World.ownsRow.alloc HO2.out _) ⟨w2.heap.size + 1, 0, none⟩ 1 1 (tkCells (k, v, x, a)) rfl rfl (cells_four2 w2 _ 28 (tkCells (k, v, x, a))) (tk_one _) hmx hby (size_two _ _ _ _ HSZ3.out) ?_; intro v2 w5 hown hgr _; have HP := Lib.hid (OwnK.push hown); have HB5 := Lib.hid (HO2.out.grow2 HB4.out HSZ4.out hgr); clear hown hgr))
          go_roundw
          case rel => exact ⟨nx, n, acc ++ [(k, v, x, a)], rfl, rfl, rfl, rfl, hmore.1, by simp; omega, Lib.hid ⟨by have := HT.out.1; omega, HX.out, HP.out⟩, HB5.out⟩
          case measure => simp [intOf]; try omega
end Go.Proofs.YtnmofkngengoeaaDoor
