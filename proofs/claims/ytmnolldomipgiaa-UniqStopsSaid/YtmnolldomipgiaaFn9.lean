/- The law's list of entries; layer 10 (uniq). -/
import Derived.Test.YtmnolldomipgiaaFn8
import Derived.Shelf.Abstract
namespace Go.Proofs.Ytmnolldomipgiaa
open Go.RowKit Go.Shelf Go.Maps
attribute [local go_sem] Oper.semAt_some wide_fn wide_depth

theorem eql_nilFunc (p : Option Addr) (W : World) : (binOp .eql 55 (.func (.func 22) #[] #[.pointer p]) Value.nilFunc).run Try.prog W = .ok (.bool false) W := by kernel_rfl
theorem run_Each (p : Option Addr) (w : World) : Calls Try.prog 20 #[.pointer p] w fun e w' => e = .returned (.func (.func 22) #[] #[.pointer (some ⟨w.heap.size, 0, none⟩)]) ∧ w.alloc (.cells #[.pointer p] 23) = w' := by
  go_enter Try.func20, Try.ntmps20
  go_wp2
  go_ret
  exact ⟨rfl, rfl⟩
theorem own_row {w : World} {base e size n : Nat} {v : Value} {xs : List Value} (h : w.ownsRow base e size v n xs) (k : Nat) (hk : v.ownBlock = some k) : base ≤ k ∧ ∃ cs, Blk w k e cs := by
  rcases h.2 with ⟨rfl, _⟩ | ⟨g, cap, cur, rfl, hgb, hh, _⟩
  · cases hk
  · simp only [Value.ownBlock, Option.some.injEq] at hk
    subst hk
    exact ⟨hgb, cur, hh⟩
theorem Blk.same_type {w : World} {g t u : Nat} {cs ds : Array Value} (h : Blk w g t cs) (k : Blk w g u ds) : t = u := by
  unfold Blk at h k
  rw [h] at k
  simp at k
  exact k.2
theorem own_blk {β : Type} (g : Nat) (t : TypeId) (cs : Array Value) : Own (fun (_ : β) W => Blk W g t cs) := fun _ X Y row hs hg hrow =>
  (hg.block g (Blk.lt hs) (fun e => by
    obtain ⟨o, ho, hc⟩ := hrow g e.symm
    unfold Blk at hs
    rw [hs] at ho
    cases ho
    cases hc)).trans hs
theorem own_holds {β : Type} (Z Bo : Nat) (f : β → List En) : Own (fun s V => ∃ v, Blk V Bo 26 #[v] ∧ OwnE V Z v (f s)) := by
  intro s X Y row hs hg hr
  obtain ⟨v, h1, h2⟩ := hs
  obtain ⟨v', h3, h4, _⟩ := holdsRow_own Z Bo 26 38 3 (fun s => (f s).length) (fun s => enC (f s)) (fun _ _ => True) s X Y row ⟨v, h1, h2, trivial⟩ hg hr
  exact ⟨v', h3, h4⟩
theorem ownE_form {w : World} {base : Nat} {v : Value} {l : List En} (h : OwnE w base v l) : ∃ A c, v = .slice A l.length c := by
  rcases h.2 with ⟨rfl, h0⟩ | ⟨g, cap, cur, rfl, _⟩
  · exact ⟨none, 0, by rw [h0]⟩
  · exact ⟨_, _, rfl⟩
theorem cells_three (w : World) (x : En) (t : TypeId) (j : Nat) (u : Value) (h : (enL x)[j]? = some u) : (w.alloc (.cells (enR x) t)).cell? ((⟨w.heap.size, 0, none⟩ : Addr).add j) = some u := by
  have q := Blk.new w t (enR x)
  have e : (⟨w.heap.size, 0, none⟩ : Addr).add j = ⟨w.heap.size, 0 + j, none⟩ := by unfold Addr.add; split <;> simp_all
  rw [e, Nat.zero_add, q.cell, ← Array.getElem?_toList]; exact h
theorem en_one (x : En) : ∀ u ∈ enL x, u.oneCell' = true := by
  intro u hu
  simp [enL, enR] at hu
  rcases hu with rfl | rfl | rfl <;> rfl
theorem enC_take1 {l : List En} {k : Nat} (h : k < l.length) : enC (l.take (k + 1)) = enC (l.take k) ++ enL (ea l k) := by
  rw [ea_take h]; unfold enC; rw [List.flatMap_append]; simp
set_option maxRecDepth 100000 in
set_option maxHeartbeats 4000000 in
theorem l_told {w : World} {p : Option Addr} {M : List En} (hent : ∀ W, Below w.heap.size w W → Calls Try.prog 23 #[.pointer p] W (EntP M W)) (hM : M.length ≤ 1000000) (most : Int) :
    Calls Try.prog 13 #[.pointer p, .int .i64 most] w fun e w' => ∃ v, e = .returned (.tuple #[v, .bool true]) ∧ OwnE w' w.heap.size v (M.take most.toNat) ∧ Below w.heap.size w w' := by
  obtain ⟨Z, hZ⟩ : ∃ Z, w.heap.size = Z := ⟨_, rfl⟩
  rw [hZ]
  obtain ⟨W0, hW0⟩ : ∃ W0, ((w.alloc (.cells #[.int .i64 most] 3)).alloc (.cells #[.pointer p] 23)).alloc (.cells #[.slice none 0 0] 26) = W0 := ⟨_, rfl⟩
  have hq := eql_nilFunc (some ⟨Z + 1, 0, none⟩)
  refine (callsIn_wide (n := 0)).1 ?_
  refine callsIn_of_wp_marks Try.func13 rfl trivial ?_ rfl
  simp only [Try.ntmps13, List.size_toArray, List.length_cons, List.length_nil, Nat.reduceAdd, Nat.reduceSub, Array.replicate_succ, Array.replicate_zero, List.push_toArray, List.append_toArray, List.nil_append, List.cons_append]
  gi_wp2_with (gi_at_call 20; refine (callsIn_wide.2 (run_Each _ _)).mono ?_; rintro e w1 ⟨rfl, rfl⟩)
  have hsz : W0.heap.size = Z + 3 := by rw [← hW0]; simp; omega
  have hbe : Below w.heap.size w W0 := by
    rw [← hW0]
    exact (((Below.refl _ _).alloc (Nat.le_refl _) _).alloc (by simp) _).alloc (by simp; omega) _
  have b0 : Blk W0 Z 3 #[.int .i64 most] := by rw [← hW0, ← hZ]; exact ((Blk.new w 3 _).alloc _).alloc _
  have b1 : Blk W0 (Z + 1) 23 #[.pointer p] := by
    rw [← hW0]
    have h1 := (Blk.new (w.alloc (.cells #[.int .i64 most] 3)) 23 #[.pointer p]).alloc (.cells #[.slice none 0 0] 26)
    simp only [World.size_alloc, hZ] at h1
    exact h1
  have b2 : Blk W0 (Z + 2) 26 #[.slice none 0 0] := by
    rw [← hW0]
    have h1 := Blk.new ((w.alloc (.cells #[.int .i64 most] 3)).alloc (.cells #[.pointer p] 23)) 26 #[.slice none 0 0]
    simp only [World.size_alloc, hZ] at h1
    exact h1
  have o1 : OwnE W0 Z (.slice none 0 0) [] := OwnE.nil _ _
  have hS : ∀ b, (fun _ : Nat => False) b → b < W0.heap.size := fun _ h => h.elim
  have hit := iter_each (S := fun _ => False) b1 (fun W hW => hent W (hbe.trans (hW.mono hbe.size))) hM
  rw [hZ] at hbe
  try rw [hW0]
  refine wp_range (gf := 22) (lb := #[.pointer (some ⟨Z + 1, 0, none⟩)]) rfl (enters_of Try.func22 (by kernel_rfl) rfl) hit (Below.refl _ _) hS ?hps
    (fun k V => ((((∃ v, Blk V (Z + 2) 26 #[v] ∧ OwnE V Z v (M.take k)) ∧ Blk V Z 3 #[.int .i64 most]) ∧ Blk V (Z + 1) 23 #[.pointer p]) ∧ Below Z w V) ∧ k ≤ most.toNat)
    (fun c k V => ((∃ v, Blk V (Z + 2) 26 #[v] ∧ OwnE V Z v (M.take most.toNat)) ∧ Below Z w V) ∧ c = .exit 0)
    ?hI ?hIx ?h0
    (fun k k' a' V => ∃ Bx, k < M.length ∧ k' = k + 1 ∧ Blk V Bx 53 #[.int .i64 (ea M k).lo, .int .i64 (ea M k).hi] ∧ a' = { tmps := #[.pointer p, .int .i64 most, undef, .pointer (some ⟨Z, 0, none⟩), .slice none 0 0, .bool false, .func (.func 22) #[] #[.pointer (some ⟨Z + 1, 0, none⟩)], .pointer (some ⟨Z + 1 + 1, 0, none⟩), .pointer (some ⟨Bx, 0, none⟩), .int .i64 (ea M k).id, .pointer p, .func (.func 22) #[] #[.pointer (some ⟨Z + 1, 0, none⟩)], .func (.func 22) #[] #[.pointer (some ⟨Z + 1, 0, none⟩)], .bool false, .func (.func 22) #[] #[.pointer (some ⟨Z + 1, 0, none⟩)], .agg #[.int .i64 (ea M k).lo, .int .i64 (ea M k).hi], .int .i64 (ea M k).id, undef, undef, undef, undef, undef, undef, undef, undef, undef, undef, undef, undef, undef, undef], defers := [] })
    ?hAx ?assign ?body ?done ?stop
  case hps =>
    rintro k x k' _ ⟨_, rfl, _⟩
    rfl
  case hI =>
    exact OwnFrom.and (OwnFrom.and (OwnFrom.and (OwnFrom.and (Own.from (own_holds Z (Z + 2) (fun k => M.take k)) _) (Own.from (own_blk _ _ _) _)) (Own.from (own_blk _ _ _) _)) (ownFrom_below (by omega) (by omega))) (ownFrom_pure _ _)
  case hIx =>
    intro c
    exact OwnFrom.and (OwnFrom.and (Own.from (own_holds Z (Z + 2) (fun _ => M.take most.toNat)) _) (ownFrom_below (by omega) (by omega))) (ownFrom_pure _ _)
  case h0 =>
    intro V hV
    refine ⟨⟨⟨⟨⟨_, b2.below hV b2.lt, o1.below hV⟩, b0.below hV b0.lt⟩, b1.below hV b1.lt⟩, hbe.trans (hV.mono (by omega))⟩, Nat.zero_le _⟩
  case hAx =>
    rintro k k' a' _ X Y row ⟨Bx, h1, h2, h3, h4⟩ hg hr
    exact ⟨Bx, h1, h2, own_blk Bx 53 _ () X Y row h3 hg (fun r e => (hr r e).2), h4⟩
  case assign =>
    rintro l k x k' V K ⟨hk, rfl, rfl⟩ ⟨⟨⟨⟨⟨v, q1, q2⟩, q3⟩, q4⟩, q5⟩, q6⟩ hz hK
    have HN := Lib.hid (Blk.new V 53 #[.int .i64 (ea M k).lo, .int .i64 (ea M k).hi])
    have HK := Lib.hid (hK _ (V.alloc (.cells #[.int .i64 (ea M k).lo, .int .i64 (ea M k).hi] 53)) (KeepsP.below ((Below.refl _ _).alloc (Nat.le_refl _) _)) (Kept.alloc (fun b hb => hb.elim) _)
      ⟨⟨⟨⟨⟨v, q1.alloc _, q2.below ((Below.refl _ _).alloc (Nat.le_refl _) _)⟩, q3.alloc _⟩, q4.alloc _⟩, q5.alloc (by omega) _⟩, q6⟩ ⟨V.heap.size, hk, rfl, HN.out, rfl⟩)
    clear hK q1 q2 q3 q4 q5 q6 hk hq hZ hW0 hsz hbe b0 b1 b2 o1 hS hit hent hM hz
    unfold enY
    generalize (ea M k).lo = x0 at *
    generalize (ea M k).hi = x1 at *
    generalize (ea M k).id = x2 at *
    gi_wp2
    exact HK.out
  case body =>
    rintro l k k' a' V ⟨⟨⟨⟨⟨v, q1, q2⟩, q3⟩, q4⟩, q5⟩, q6⟩ ⟨Bx, hkL, rfl, hBx, rfl⟩ hz
    obtain ⟨A, c, rfl⟩ := ownE_form q2
    have hlen : (M.take k).length = k := by rw [List.length_take]; omega
    rw [hlen] at q1
    have q2' : V.ownsRow Z 38 3 (.slice A k c) k (enC (M.take k)) := by
      have h1 := q2
      unfold OwnE at h1
      rw [hlen] at h1
      exact h1
    have hZV : Z ≤ V.heap.size := by omega
    by_cases hmk : most ≤ (k : Int)
    · have hmk2 : most.toNat = k := by omega
      have HX := Lib.hid (show ((∃ v, Blk V (Z + 2) 26 #[v] ∧ OwnE V Z v (M.take most.toNat)) ∧ Below Z w V) from ⟨⟨_, q1, by rw [hmk2]; unfold OwnE; rw [hlen]; exact q2'⟩, q5⟩)
      have e5 := q1.cell 0
      have e3 := q3.cell 0
      simp at e5 e3
      clear q1 q2 q2' q3 q4 q5 q6 hq hZ hW0 hsz hbe b0 b1 b2 o1 hS hit hent hM hz hBx hlen hkL hZV hmk2
      gi_wp2
      exact ⟨KeepsP.refl _ _ _, HX.out, rfl⟩
    · have hmk' : (k : Int) < most := by omega
      obtain ⟨i0, hi0, hz0, hz1, hz2⟩ := info_parts info38
      have hmx : k + 1 ≤ maxLen := by unfold maxLen; omega
      have hby : (k + 1) * 24 ≤ 140737488355328 := by omega
      generalize hy : ea M k = y at *
      have hbs : Z ≤ (V.alloc (.cells (enR y) 38)).heap.size := by simp; omega
      have hv : Boxed V (Z + 2) 26 (.slice A k c) := q1
      have hown0 := World.ownsRow.alloc q2' (.cells (enR y) 38)
      have HEND := Lib.hid (show ∀ v2 w1, w1.ownsRow Z 38 3 v2 (k + 1) (enC (M.take k) ++ enL y) → (V.alloc (.cells (enR y) 38)).grownBy w1 (Value.slice A k c).ownBlock →
          KeepsP PtX W0.heap.size V (w1.setCell ⟨Z + 2, 0, none⟩ v2) ∧ Kept (fun _ : Nat => False) V (w1.setCell ⟨Z + 2, 0, none⟩ v2) ∧
          ((((∃ v, Blk (w1.setCell ⟨Z + 2, 0, none⟩ v2) (Z + 2) 26 #[v] ∧ OwnE (w1.setCell ⟨Z + 2, 0, none⟩ v2) Z v (M.take (k + 1))) ∧ Blk (w1.setCell ⟨Z + 2, 0, none⟩ v2) Z 3 #[.int .i64 most]) ∧ Blk (w1.setCell ⟨Z + 2, 0, none⟩ v2) (Z + 1) 23 #[.pointer p]) ∧ Below Z w (w1.setCell ⟨Z + 2, 0, none⟩ v2)) ∧ k + 1 ≤ most.toNat from by
        intro v2 w1 hown hg
        obtain ⟨g1, g2, g3, g4, g5⟩ := hv.appended (by decide) q2' hZV (by omega) hown hg
        have hal : Below V.heap.size V (V.alloc (.cells (enR y) 38)) := (Below.refl _ _).alloc (Nat.le_refl _) _
        have hr : ∀ b, (Value.slice A k c).ownBlock = some b → Z ≤ b ∧ ∃ cs, Blk (V.alloc (.cells (enR y) 38)) b 38 cs := fun b hb => own_row hown0 b hb
        have hne : ∀ b t cs, (Value.slice A k c).ownBlock = some b → t ≠ 38 → Blk V b t cs → False := fun b t cs hb ht hB => by
          obtain ⟨_, ds, hD⟩ := hr b hb
          exact ht (Blk.same_type (hB.alloc _) hD)
        have hB : ∀ (g t : Nat) (cs : Array Value), Blk V g t cs → t ≠ 38 → Blk w1 g t cs := fun g t cs hB ht => (hg.block g (hB.alloc _).lt (fun e => hne g t cs e.symm ht hB)).trans (hB.alloc _)
        refine ⟨?_, fun b hb => hb.elim, ⟨⟨⟨⟨_, g2, ?_⟩, (hB _ _ _ q3 (by decide)).set_other (by omega) _ _⟩, (hB _ _ _ q4 (by decide)).set_other (by omega) _ _⟩, q5.trans g5⟩, by omega⟩
        · refine ((KeepsP.below hal).trans (KeepsP.grown hg fun b e => .inr fun o ho => ?_)).trans (KeepsP.set _ _ _ _ (.inl (by omega)))
          obtain ⟨_, ds, hD⟩ := hr b e
          unfold Blk at hD
          rw [hD] at ho
          cases ho
          rfl
        · unfold OwnE
          rw [enC_take1 hkL, hy, List.length_take, show min (k + 1) M.length = k + 1 by omega]
          exact g3)
      have e5 := q1.cell 0
      have e3 := q3.cell 0
      simp at e5 e3
      have hH5 : ∀ w1, (V.alloc (.cells (enR y) 38)).grownBy w1 (Value.slice A k c).ownBlock → w1.cell? ⟨Z + 2, 0, none⟩ = some (.slice A k c) ∧ w1.frozen? ⟨Z + 2, 0, none⟩ = false := fun w1 hg => by
        have hb1 : Blk w1 (Z + 2) 26 #[.slice A k c] := (hg.block (Z + 2) (q1.alloc _).lt (fun e => by
          obtain ⟨_, ds, hD⟩ := own_row hown0 _ e.symm
          have := Blk.same_type (q1.alloc _) hD
          cases this)).trans (q1.alloc _)
        exact ⟨by have := hb1.cell 0; simpa using this, hb1.frozen 0⟩
      have HH5 := Lib.hid hH5
      have HO := Lib.hid hown0
      have c0 := hBx.cell 0
      have c1 := hBx.cell 1
      simp only [List.getElem?_toArray, List.getElem?_cons_zero, List.getElem?_cons_succ] at c0 c1
      have HM := Lib.hid hmx
      have HB := Lib.hid hby
      have HBS := Lib.hid hbs
      have HL := Lib.hid (cells_three V y 38)
      have HO1 := Lib.hid (en_one y)
      clear hv hown0 hH5 q1 q2 q2' q3 q4 q5 q6 hq hZ hW0 hsz hbe b0 b1 b2 o1 hS hit hent hM hz hBx hlen hkL hZV hmx hby hbs hmk hy
      obtain ⟨x0, x1, x2⟩ := y
      unfold enR at *
      dsimp only at *
      gi_wp2_with (gi_at_builtin; refine wpListIn_append_own _ rfl _ _ 26 rfl Z 38 i0 _ 3 24 Try.underlying26 hi0 hz0 hz1 hz2 rfl (by decide) _ _ _ rfl HO.out ⟨V.heap.size, 0, none⟩ 1 1 (enL ⟨x0, x1, x2⟩) rfl rfl HL.out HO1.out HM.out HB.out HBS.out ?_; intro v2 w1 hown hg1 _; obtain ⟨g', cap', rfl⟩ := ownsRow_succ hown; have HE := Lib.hid (HEND.out _ _ hown hg1); obtain ⟨z1, z2⟩ := HH5.out _ hg1; clear hown hg1 HEND HH5 HO c0 c1 e5 e3 hi0 hz0 hz1 hz2)
      exact HE.out
  case done =>
    rintro D k V hD rfl ⟨⟨⟨⟨⟨v, q1, q2⟩, q3⟩, q4⟩, q5⟩, q6⟩ hDf
    obtain ⟨A, c, rfl⟩ := ownE_form q2
    have q2' : OwnE V Z (.slice A (M.take M.length).length c) (M.take most.toNat) := by
      rw [List.take_of_length_le q6]
      rw [List.take_length] at q2 ⊢
      exact q2
    clear q2
    generalize (M.take M.length).length = m at q1 q2'
    have hVs := (Array.getElem?_eq_some_iff.1 hDf).1
    have e5 := q1.cell 0
    simp at e5
    have hg := grownBy_putObj' V D (.deferred none)
    have HF := Lib.hid (show OwnE (V.putObj D (.deferred none)) Z (.slice A m c) (M.take most.toNat) from ownsRow_putObj q2' _ hDf rfl)
    have HFB := Lib.hid (show Below Z w (V.putObj D (.deferred none)) from q5.trans ((Below.refl Z V).grown hg (by omega) (fun k e => by cases e; omega)))
    clear q1 q2' q3 q4 q5 q6 hq hZ hVs hW0 hbe b0 b1 b2 o1 hS hit hent hM hsz hD hg
    gi_wp2
    refine ⟨by simp, .inl ⟨_, _, rfl, run_takeDeferred hDf, ?_⟩⟩
    exact ⟨_, results_tmp2 rfl _ _ _, _, rfl, HF.out, HFB.out⟩
  case stop =>
    rintro D c k V hD ⟨⟨⟨v, q1, q2⟩, q5⟩, rfl⟩ hDf
    obtain ⟨A, c, rfl⟩ := ownE_form q2
    generalize hgm : (M.take most.toNat).length = m at q1 q2
    have e5 := q1.cell 0
    simp at e5
    have hg := grownBy_putObj' V D (.deferred none)
    have HF := Lib.hid (show OwnE (V.putObj D (.deferred none)) Z (.slice A m c) (M.take most.toNat) from ownsRow_putObj q2 _ hDf rfl)
    have HFB := Lib.hid (show Below Z w (V.putObj D (.deferred none)) from q5.trans ((Below.refl Z V).grown hg (by have := q1.lt; omega) (fun k e => by cases e; omega)))
    clear q1 q2 q5 hgm hq hZ hW0 hsz hbe b0 b1 b2 o1 hS hit hent hM hD hg
    gi_wp2
    refine ⟨by simp, .inl ⟨_, _, rfl, run_takeDeferred hDf, ?_⟩⟩
    exact ⟨_, results_tmp2 rfl _ _ _, _, rfl, HF.out, HFB.out⟩
end Go.Proofs.Ytmnolldomipgiaa
