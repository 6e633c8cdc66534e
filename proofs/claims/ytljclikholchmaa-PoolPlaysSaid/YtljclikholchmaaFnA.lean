/- All of the statements of layer 9 (pool): the nodes of a pool, collected; over the translation. -/
import Derived.Test.YtljclikholchmaaFn9
namespace Go.Proofs.Ytljclikholchmaa
open Go.RowKit Go.Shelf
attribute [local go_sem] Oper.semAt_some wide_fn wide_depth

def eachN (N : List Nd) : List Nd := (takenL N N.length).map fun i => N.getD i nd0
theorem eachV_at {N : List Nd} {k : Nat} {x : Array Value} (h : (eachV N)[k]? = some x) : ∃ y, (eachN N)[k]? = some y ∧ x = #[ndV y] := by
  unfold eachV at h
  unfold eachN
  rw [List.getElem?_map] at h ⊢
  cases hq : (takenL N N.length)[k]? with
  | none => rw [hq] at h; cases h
  | some i => rw [hq] at h; cases h; exact ⟨_, rfl, rfl⟩
theorem ownN_empty (w : World) : OwnN (w.alloc (.cells #[] 38)) w.heap.size (.slice (some ⟨w.heap.size, 0, none⟩) 0 0) [] := by
  refine ⟨rfl, .inr ⟨w.heap.size, 0, #[], rfl, Nat.le_refl _, ?_, Nat.le_refl _, Nat.zero_le _, rfl, rfl⟩⟩
  exact heap_alloc_new w _
theorem own_row {w : World} {base e size n : Nat} {v : Value} {xs : List Value} (h : w.ownsRow base e size v n xs) (k : Nat) (hk : v.ownBlock = some k) : base ≤ k ∧ ∃ cs, Blk w k e cs := by
  rcases h.2 with ⟨rfl, _⟩ | ⟨g, cap, cur, rfl, hgb, hh, _⟩
  · cases hk
  · simp only [Value.ownBlock, Option.some.injEq] at hk
    subst hk
    exact ⟨hgb, cur, hh⟩
theorem eql_nilFunc (p : Option Addr) (W : World) : (binOp .eql 63 (.func (.func 29) #[] #[.pointer p]) Value.nilFunc).run Try.prog W = .ok (.bool false) W := by kernel_rfl
theorem Blk.same_type {w : World} {g t u : Nat} {cs ds : Array Value} (h : Blk w g t cs) (k : Blk w g u ds) : t = u := by
  unfold Blk at h k
  rw [h] at k
  simp at k
  exact k.2
theorem own_blk {β : Type} (g : Nat) (t : TypeId) (cs : Array Value) : Own (fun (_ : β) W => Blk W g t cs) := fun _ X Y row hs hg hrow =>
  (hg.block g (Blk.lt hs) (fun e => by
    obtain ⟨o, ho, hc⟩ := hrow g e.symm
    unfold Blk at hs
    rw [hs] at ho
    cases ho
    cases hc)).trans hs
theorem own_holds {β : Type} (Z Bo : Nat) (f : β → List Nd) : Own (fun s V => ∃ v, Blk V Bo 28 #[v] ∧ OwnN V Z v (f s)) := by
  intro s X Y row hs hg hr
  obtain ⟨v, h1, h2⟩ := hs
  obtain ⟨v', h3, h4, _⟩ := holdsRow_own Z Bo 28 38 5 (fun s => (f s).length) (fun s => ndCells (f s)) (fun _ _ => True) s X Y row ⟨v, h1, h2, trivial⟩ hg hr
  exact ⟨v', h3, h4⟩
theorem ownN_form {w : World} {base : Nat} {v : Value} {l : List Nd} (h : OwnN w base v l) : ∃ A c, v = .slice A l.length c := by
  rcases h.2 with ⟨rfl, h0⟩ | ⟨g, cap, cur, rfl, _⟩
  · exact ⟨none, 0, by rw [h0]⟩
  · exact ⟨_, _, rfl⟩
theorem eachN_len (N : List Nd) : (eachN N).length ≤ N.length := by
  unfold eachN takenL
  rw [List.length_map]
  exact Nat.le_trans (List.length_filter_le _ _) (by simp)
theorem ndCells_take {l : List Nd} {k : Nat} {y : Nd} (h : l[k]? = some y) : ndCells (l.take (k + 1)) = ndCells (l.take k) ++ (ndRow y).toList := by
  obtain ⟨hk, rfl⟩ := List.getElem?_eq_some_iff.1 h
  rw [List.take_succ_eq_append_getElem hk]
  unfold ndCells
  rw [List.flatMap_append]
  simp
section
variable {w w' : World} {base bp : Nat} {room : Int} {An As : Option Addr} {cn cs : Nat} {N : List Nd} {st : List Int} {nf : Nat}
theorem PoolIn.foot (h : PoolIn w base bp room An As cn cs N st nf) {b : Nat} (hb : PoolS bp An As b) : b < w.heap.size := by
  rcases hb with rfl | ⟨a, rfl, rfl⟩ | ⟨a, rfl, rfl⟩
  · exact h.head.lt
  · exact own_lt h.nodes _ rfl
  · exact own_lt h.stack _ rfl
set_option maxRecDepth 100000 in
set_option maxHeartbeats 4000000 in
theorem law_All_of (p : Option Addr) (L : List Nd) (S : Nat → Prop) (hfoot0 : ∀ b, S b → b < w.heap.size) (hLl : L.length ≤ 1048576)
    (hit0 : ∀ W0 Z, Z = w.heap.size → Below w.heap.size w W0 → Blk W0 (Z + 3) 24 #[.pointer p] → W0.heap.size = Z + 4 → Iter Try.prog 29 #[.pointer (some ⟨Z + 1 + 1 + 1, 0, none⟩)] PtE (fun b => S b ∨ b = Z + 3) (L.map fun y => #[ndV y]) W0)
    (most : Int) : Calls Try.prog 17 #[.pointer p, .int .i64 most] w fun e w' =>
    ∃ v, e = .returned v ∧ OwnN w' w.heap.size v (L.take most.toNat) ∧ Below w.heap.size w w' := by
  obtain ⟨Z, hZ⟩ : ∃ Z, w.heap.size = Z := ⟨_, rfl⟩
  rw [hZ]
  obtain ⟨W0, hW0⟩ : ∃ W0, (((w.alloc (.cells #[.int .i64 most] 3)).alloc (.cells #[] 38)).alloc (.cells #[.slice (some ⟨Z + 1, 0, none⟩) 0 0] 28)).alloc (.cells #[.pointer p] 24) = W0 := ⟨_, rfl⟩
  have hq := eql_nilFunc (some ⟨Z + 1 + 1 + 1, 0, none⟩) W0
  refine (callsIn_wide (n := 0)).1 ?_
  refine callsIn_of_wp_marks Try.func17 rfl trivial ?_ rfl
  simp only [Try.ntmps17, List.size_toArray, List.length_cons, List.length_nil, Nat.reduceAdd, Nat.reduceSub, Array.replicate_succ, Array.replicate_zero, List.push_toArray, List.append_toArray, List.nil_append, List.cons_append]
  gi_wp2_with (gi_at_call 27; refine (callsIn_wide.2 (run_Each _ _)).mono ?_; rintro e w1 ⟨rfl, rfl⟩)
  have hZ2 : Z = w.heap.size := hZ.symm
  have hsz : W0.heap.size = Z + 4 := by rw [← hW0]; simp; omega
  have hbe : Below w.heap.size w W0 := by
    rw [← hW0]
    exact ((((Below.refl _ _).alloc (Nat.le_refl _) _).alloc (by simp) _).alloc (by simp; omega) _).alloc (by simp; omega) _
  have b0 : Blk W0 Z 3 #[.int .i64 most] := by rw [← hW0, ← hZ]; exact (((Blk.new w 3 _).alloc _).alloc _).alloc _
  have b2 : Blk W0 (Z + 2) 28 #[.slice (some ⟨Z + 1, 0, none⟩) 0 0] := by
    rw [← hW0]
    have h1 := (Blk.new ((w.alloc (.cells #[.int .i64 most] 3)).alloc (.cells #[] 38)) 28 #[.slice (some ⟨Z + 1, 0, none⟩) 0 0]).alloc (.cells #[.pointer p] 24)
    simp only [World.size_alloc, hZ] at h1
    exact h1
  have b3 : Blk W0 (Z + 3) 24 #[.pointer p] := by
    rw [← hW0]
    have h1 := Blk.new (((w.alloc (.cells #[.int .i64 most] 3)).alloc (.cells #[] 38)).alloc (.cells #[.slice (some ⟨Z + 1, 0, none⟩) 0 0] 28)) 24 #[.pointer p]
    simp only [World.size_alloc, hZ] at h1
    exact h1
  have o1 : OwnN W0 Z (.slice (some ⟨Z + 1, 0, none⟩) 0 0) [] := by
    have h1 := ownN_empty (w.alloc (.cells #[.int .i64 most] 3))
    simp only [World.size_alloc, hZ] at h1
    have h2 : Below ((w.alloc (.cells #[.int .i64 most] 3)).alloc (.cells #[] 38)).heap.size ((w.alloc (.cells #[.int .i64 most] 3)).alloc (.cells #[] 38)) W0 := by
      rw [← hW0]
      exact ((Below.refl _ _).alloc (Nat.le_refl _) _).alloc (by simp) _
    obtain ⟨h3, h4⟩ := own_keep h1 h2
    refine ⟨h3, ?_⟩
    rcases h4 with h4 | ⟨g, cap, cur, e1, e2, e3⟩
    · exact .inl h4
    · exact .inr ⟨g, cap, cur, e1, by omega, e3⟩
  have hfoot : ∀ b, S b → b < Z := fun b hb => by have := hfoot0 b hb; omega
  have hS : ∀ b, (S b ∨ b = Z + 3) → b < W0.heap.size := by
    rintro b (hb | rfl)
    · have := hfoot b hb; omega
    · omega
  have hit := hit0 W0 Z hZ2 hbe b3 hsz
  have hVL : ∀ k x, (L.map fun y => #[ndV y])[k]? = some x → ∃ y, L[k]? = some y ∧ x = #[ndV y] := fun k x hx => by
    rw [List.getElem?_map] at hx
    cases hq : L[k]? with
    | none => rw [hq] at hx; cases hx
    | some i => rw [hq] at hx; cases hx; exact ⟨_, hq, rfl⟩
  have hEL : (L.map fun y => #[ndV y]).length = L.length := List.length_map _
  rw [hZ] at hbe
  refine wp_range (gf := 29) (lb := #[.pointer (some ⟨Z + 1 + 1 + 1, 0, none⟩)]) rfl (enters_of Try.func29 (by kernel_rfl) rfl) hit (Below.refl _ _) hS ?hps
    (fun k V => ((((∃ v, Blk V (Z + 2) 28 #[v] ∧ OwnN V Z v (L.take k)) ∧ Blk V Z 3 #[.int .i64 most]) ∧ Blk V (Z + 3) 24 #[.pointer p]) ∧ Below Z w V) ∧ k ≤ most.toNat)
    (fun c k V => ((∃ v, Blk V (Z + 2) 28 #[v] ∧ OwnN V Z v (L.take most.toNat)) ∧ Below Z w V) ∧ c = .exit 0)
    ?hI ?hIx ?h0
    (fun k a' V => ∃ y Bx, L[k]? = some y ∧ Blk V Bx 38 (ndRow y) ∧ a' = { tmps := #[.pointer p, .int .i64 most, undef, .pointer (some ⟨Z, 0, none⟩), .slice none 0 0, .pointer (some ⟨Z + 1 + 1, 0, none⟩), .func (.func 29) #[] #[.pointer (some ⟨Z + 1 + 1 + 1, 0, none⟩)],
        .pointer (some ⟨Bx, 0, none⟩), .slice (some ⟨Z + 1, 0, none⟩) 0 0, .pointer p, .func (.func 29) #[] #[.pointer (some ⟨Z + 1 + 1 + 1, 0, none⟩)], .func (.func 29) #[] #[.pointer (some ⟨Z + 1 + 1 + 1, 0, none⟩)], .bool false, undef,
        .func (.func 29) #[] #[.pointer (some ⟨Z + 1 + 1 + 1, 0, none⟩)], ndV y, undef, undef, undef, undef, undef, undef, undef, undef, undef], defers := [] })
    ?hAx ?assign ?body ?done ?stop
  case hps =>
    intro k x hx
    obtain ⟨y, _, rfl⟩ := hVL k x hx
    rfl
  case hI =>
    exact OwnFrom.and (OwnFrom.and (OwnFrom.and (OwnFrom.and (Own.from (own_holds Z (Z + 2) (fun k => L.take k)) _) (Own.from (own_blk _ _ _) _)) (Own.from (own_blk _ _ _) _)) (ownFrom_below (by omega) (by omega))) (ownFrom_pure _ _)
  case hIx =>
    intro c
    exact OwnFrom.and (OwnFrom.and (Own.from (own_holds Z (Z + 2) (fun _ => L.take most.toNat)) _) (ownFrom_below (by omega) (by omega))) (ownFrom_pure _ _)
  case h0 =>
    intro V hV
    refine ⟨⟨⟨⟨⟨_, b2.below hV b2.lt, own_keep o1 hV⟩, b0.below hV b0.lt⟩, b3.below hV b3.lt⟩, hbe.trans (hV.mono (by omega))⟩, Nat.zero_le _⟩
  case hAx =>
    rintro k a' _ X Y row ⟨y, Bx, h1, h2, h3⟩ hg hr
    exact ⟨y, Bx, h1, own_blk Bx 38 (ndRow y) () X Y row h2 hg (fun r e => (hr r e).2), h3⟩
  case assign =>
    rintro l k x V K hx ⟨⟨⟨⟨⟨v, q1, q2⟩, q3⟩, q4⟩, q5⟩, q6⟩ hz hK
    obtain ⟨y, hy, rfl⟩ := hVL k x hx
    have HN := Lib.hid (Blk.new V 38 (ndRow y))
    have HK := Lib.hid (hK _ (V.alloc (.cells (ndRow y) 38)) (KeepsP.below ((Below.refl _ _).alloc (Nat.le_refl _) _)) (Kept.alloc (fun b hb => Nat.lt_of_lt_of_le (hS b hb) hz) _)
      ⟨⟨⟨⟨⟨v, q1.alloc _, own_keep q2 ((Below.refl _ _).alloc (Nat.le_refl _) _)⟩, q3.alloc _⟩, q4.alloc _⟩, q5.alloc (by omega) _⟩, q6⟩ ⟨y, V.heap.size, hy, HN.out, rfl⟩)
    clear hK q1 q2 q3 q4 q5 q6 hx hy hq hZ hW0 hZ2 hsz hbe b0 b2 b3 o1 hfoot hS hit hVL hfoot0 hit0 hEL  hLl hz
    obtain ⟨x0, x1, x2, x3, x4⟩ := y
    unfold ndV ndRow
    gi_wp2
    exact HK.out
  case body =>
    rintro l k x a' V hx ⟨⟨⟨⟨⟨v, q1, q2⟩, q3⟩, q4⟩, q5⟩, q6⟩ ⟨y, Bx, hy, hBx, rfl⟩ hz
    obtain ⟨A, c, rfl⟩ := ownN_form q2
    have hkL : k < L.length := (List.getElem?_eq_some_iff.1 hy).1
    have hlen : (L.take k).length = k := by rw [List.length_take]; omega
    rw [hlen] at q1
    have q2' : V.ownsRow Z 38 5 (.slice A k c) k (ndCells (L.take k)) := by
      have h1 := q2
      unfold OwnN at h1
      rw [hlen] at h1
      exact h1
    have hZV : Z ≤ V.heap.size := by omega
    by_cases hmk : most ≤ (k : Int)
    · have hmk2 : most.toNat = k := by omega
      have HX := Lib.hid (show ((∃ v, Blk V (Z + 2) 28 #[v] ∧ OwnN V Z v (L.take most.toNat)) ∧ Below Z w V) from ⟨⟨_, q1, by rw [hmk2]; unfold OwnN; rw [hlen]; exact q2'⟩, q5⟩)
      have e5 := q1.cell 0
      have e3 := q3.cell 0
      simp at e5 e3
      clear q1 q2 q2' q3 q4 q5 q6 hx hy hq hZ hW0 hZ2 hsz hbe b0 b2 b3 o1 hfoot hS hit hVL hfoot0 hit0 hEL  hLl hz hBx hlen hkL hZV hmk2
      obtain ⟨x0, x1, x2, x3, x4⟩ := y
      gi_wp2
      exact ⟨KeepsP.refl _ _ _, HX.out, rfl⟩
    · have hmk' : (k : Int) < most := by omega
      obtain ⟨i0, hi0, hz0, hz1, hz2⟩ := info_parts info38
      have hmx : k + 1 ≤ maxLen := by unfold maxLen; omega
      have hby : (k + 1) * 40 ≤ 140737488355328 := by omega
      have hbs : Z ≤ (V.alloc (.cells (ndRow y) 38)).heap.size := by simp; omega
      have hv : Boxed V (Z + 2) 28 (.slice A k c) := q1
      have hown0 := World.ownsRow.alloc q2' (.cells (ndRow y) 38)
      have HEND := Lib.hid (show ∀ v2 w1, w1.ownsRow Z 38 5 v2 (k + 1) (ndCells (L.take k) ++ (ndRow y).toList) → (V.alloc (.cells (ndRow y) 38)).grownBy w1 (Value.slice A k c).ownBlock →
          KeepsP PtE W0.heap.size V (w1.setCell ⟨Z + 2, 0, none⟩ v2) ∧ Kept (fun b => S b ∨ b = Z + 3) V (w1.setCell ⟨Z + 2, 0, none⟩ v2) ∧
          ((((∃ v, Blk (w1.setCell ⟨Z + 2, 0, none⟩ v2) (Z + 2) 28 #[v] ∧ OwnN (w1.setCell ⟨Z + 2, 0, none⟩ v2) Z v (L.take (k + 1))) ∧ Blk (w1.setCell ⟨Z + 2, 0, none⟩ v2) Z 3 #[.int .i64 most]) ∧ Blk (w1.setCell ⟨Z + 2, 0, none⟩ v2) (Z + 3) 24 #[.pointer p]) ∧ Below Z w (w1.setCell ⟨Z + 2, 0, none⟩ v2)) ∧ k + 1 ≤ most.toNat from by
        intro v2 w1 hown hg
        obtain ⟨g1, g2, g3, g4, g5⟩ := hv.appended (by decide) q2' hZV (by omega) hown hg
        have hal : Below V.heap.size V (V.alloc (.cells (ndRow y) 38)) := (Below.refl _ _).alloc (Nat.le_refl _) _
        have hr : ∀ b, (Value.slice A k c).ownBlock = some b → Z ≤ b ∧ ∃ cs, Blk (V.alloc (.cells (ndRow y) 38)) b 38 cs := fun b hb => own_row hown0 b hb
        have hne : ∀ b t cs, (Value.slice A k c).ownBlock = some b → t ≠ 38 → Blk V b t cs → False := fun b t cs hb ht hB => by
          obtain ⟨_, ds, hD⟩ := hr b hb
          exact ht (Blk.same_type (hB.alloc _) hD)
        have hk1 : Kept (fun b => S b ∨ b = Z + 3) V w1 := (Kept.below hal (fun b hb => Nat.lt_of_lt_of_le (hS b hb) hz)).trans (Kept.grown hg (fun b hb => by have := hS b hb; simp; omega) (fun b e hb => by
          rcases hb with hb | rfl
          · have := hfoot b hb; have := (hr b e).1; omega
          · exact hne _ _ _ e (by decide) q4))
        have hB : ∀ (g t : Nat) (cs : Array Value), Blk V g t cs → t ≠ 38 → Blk w1 g t cs := fun g t cs hB ht => (hg.block g (hB.alloc _).lt (fun e => hne g t cs e.symm ht hB)).trans (hB.alloc _)
        refine ⟨?_, hk1.trans (Kept.set (fun e => ?_) _), ⟨⟨⟨⟨_, g2, ?_⟩, (hB _ _ _ q3 (by decide)).set_other (by omega) _ _⟩, (hB _ _ _ q4 (by decide)).set_other (by omega) _ _⟩, q5.trans g5⟩, by omega⟩
        · refine ((KeepsP.below hal).trans (KeepsP.grown hg fun b e => .inr fun o ho => ?_)).trans (KeepsP.set _ _ _ _ (.inl (by omega)))
          obtain ⟨_, ds, hD⟩ := hr b e
          unfold Blk at hD
          rw [hD] at ho
          cases ho
          rfl
        · rcases e with e | e
          · have := hfoot _ e; simp only at this; omega
          · simp only at e; omega
        · unfold OwnN
          rw [ndCells_take hy, List.length_take, show min (k + 1) L.length = k + 1 by omega]
          exact g3)
      have e5 := q1.cell 0
      have e3 := q3.cell 0
      simp at e5 e3
      have hH5 : ∀ w1, (V.alloc (.cells (ndRow y) 38)).grownBy w1 (Value.slice A k c).ownBlock → w1.cell? ⟨Z + 2, 0, none⟩ = some (.slice A k c) ∧ w1.frozen? ⟨Z + 2, 0, none⟩ = false := fun w1 hg => by
        have hb1 : Blk w1 (Z + 2) 28 #[.slice A k c] := (hg.block (Z + 2) (q1.alloc _).lt (fun e => by
          obtain ⟨_, ds, hD⟩ := own_row hown0 _ e.symm
          have := Blk.same_type (q1.alloc _) hD
          cases this)).trans (q1.alloc _)
        exact ⟨by have := hb1.cell 0; simpa using this, hb1.frozen 0⟩
      have HH5 := Lib.hid hH5
      have HO := Lib.hid hown0
      have hbx := hBx
      obtain ⟨x0, x1, x2, x3, x4⟩ := y
      have c0 := hbx.cell 0
      have c1 := hbx.cell 1
      have c2 := hbx.cell 2
      have c3 := hbx.cell 3
      have c4 := hbx.cell 4
      simp [ndRow] at c0 c1 c2 c3 c4
      have HM := Lib.hid hmx
      have HB := Lib.hid hby
      have HBS := Lib.hid hbs
      clear hv hown0 hH5 q1 q2 q2' q3 q4 q5 q6 hx hy hq hZ hW0 hZ2 hsz hbe b0 b2 b3 o1 hfoot hS hit hVL hfoot0 hit0 hEL  hLl hz hBx hbx hlen hkL hZV hmx hby hbs hmk
      unfold ndV ndRow
      gi_wp2_with (gi_at_builtin; refine wpListIn_append_own _ rfl _ _ 28 rfl Z 38 i0 _ 5 40 Try.underlying28 hi0 hz0 hz1 hz2 rfl (by decide) _ _ _ rfl HO.out ⟨V.heap.size, 0, none⟩ 1 1 (ndRow ⟨x0, x1, x2, x3, x4⟩).toList rfl rfl (cells_five _ _ _) (nd_one _) HM.out HB.out HBS.out ?_; intro v2 w1 hown hg1 _; obtain ⟨g', cap', rfl⟩ := ownsRow_succ hown; have HE := Lib.hid (HEND.out _ _ hown hg1); obtain ⟨z1, z2⟩ := HH5.out _ hg1; clear hown hg1 HEND HH5 HO c0 c1 c2 c3 c4 e5 e3 hi0 hz0 hz1 hz2)
      exact HE.out
  case done =>
    rintro D V hD ⟨⟨⟨⟨⟨v, q1, q2⟩, q3⟩, q4⟩, q5⟩, q6⟩ hDf
    obtain ⟨A, c, rfl⟩ := ownN_form q2
    have hle : L.length ≤ most.toNat := by rw [hEL] at q6; exact q6
    have q2' : OwnN V Z (.slice A (L.take (L.map fun y => #[ndV y]).length).length c) (L.take most.toNat) := by
      rw [List.take_of_length_le hle]
      rw [hEL, List.take_length] at q2 ⊢
      exact q2
    clear q2
    generalize (L.take (L.map fun y => #[ndV y]).length).length = m at q1 q2'
    have hVs := (Array.getElem?_eq_some_iff.1 hDf).1
    have e5 := q1.cell 0
    simp at e5
    have hg := grownBy_putObj' V D (.deferred none)
    have HF := Lib.hid (show OwnN (V.putObj D (.deferred none)) Z (.slice A m c) (L.take most.toNat) from ownsRow_putObj q2' _ hDf rfl)
    have HFB := Lib.hid (show Below Z w (V.putObj D (.deferred none)) from q5.trans ((Below.refl Z V).grown hg (by omega) (fun k e => by cases e; omega)))
    clear q1 q2' q3 q4 q5 q6 hq hZ hVs hW0 hZ2 hbe b0 b2 b3 o1 hfoot hS hit hVL hfoot0 hit0  hLl hsz hD hg hle hEL
    gi_wp2
    refine ⟨by simp, .inl ⟨_, _, rfl, run_takeDeferred hDf, ?_⟩⟩
    exact ⟨_, results_tmp (t := 4) rfl _ _ _, _, rfl, HF.out, HFB.out⟩
  case stop =>
    rintro D c k V hD hk ⟨⟨⟨v, q1, q2⟩, q5⟩, rfl⟩ hDf
    obtain ⟨A, c, rfl⟩ := ownN_form q2
    generalize hgm : (L.take most.toNat).length = m at q1 q2
    have e5 := q1.cell 0
    simp at e5
    have hg := grownBy_putObj' V D (.deferred none)
    have HF := Lib.hid (show OwnN (V.putObj D (.deferred none)) Z (.slice A m c) (L.take most.toNat) from ownsRow_putObj q2 _ hDf rfl)
    have HFB := Lib.hid (show Below Z w (V.putObj D (.deferred none)) from q5.trans ((Below.refl Z V).grown hg (by have := q1.lt; omega) (fun k e => by cases e; omega)))
    clear q1 q2 q5 hgm hq hZ hW0 hZ2 hbe b0 b2 b3 o1 hfoot hS hit hVL hfoot0 hit0  hLl hsz hD hg hk hEL
    gi_wp2
    refine ⟨by simp, .inl ⟨_, _, rfl, run_takeDeferred hDf, ?_⟩⟩
    exact ⟨_, results_tmp (t := 4) rfl _ _ _, _, rfl, HF.out, HFB.out⟩
theorem law_All (h : PoolIn w base bp room An As cn cs N st nf) (hN : N.length ≤ 1048576) (most : Int) : Calls Try.prog 17 #[.pointer (some ⟨bp, 0, none⟩), .int .i64 most] w fun e w' =>
    ∃ v, e = .returned v ∧ OwnN w' w.heap.size v ((eachN N).take most.toNat) ∧ Below w.heap.size w w' := by
  refine law_All_of (some ⟨bp, 0, none⟩) (eachN N) (PoolS bp An As) (fun b hb => h.foot hb) (Nat.le_trans (eachN_len N) hN) (fun W0 Z hZ hb hB hz => ?_) most
  have h1 := iter_each (S := fun b => PoolS bp An As b ∨ b = Z + 3) (h.below hb) hN hB (fun b hb => .inl hb) (.inr rfl) (by
    rintro b (hb2 | rfl)
    · have := h.foot hb2; omega
    · omega)
  have e : (eachN N).map (fun y => #[ndV y]) = eachV N := by unfold eachN eachV; rw [List.map_map]; rfl
  rw [e]
  exact h1
theorem law_All_nil (most : Int) : Calls Try.prog 17 #[.pointer none, .int .i64 most] w fun e w' =>
    ∃ v, e = .returned v ∧ OwnN w' w.heap.size v [] ∧ Below w.heap.size w w' := by
  refine (law_All_of none [] (fun _ => False) (fun _ h => h.elim) (by simp) (fun W0 Z hZ hb hB hz => ?_) most).mono ?_
  · exact iter_each_nil hB (.inr rfl) (by
      rintro b (hb2 | rfl)
      · exact hb2.elim
      · omega)
  · rintro e w1 ⟨v, h1, h2, h3⟩
    rw [List.take_nil] at h2
    exact ⟨v, h1, h2, h3⟩
end
end Go.Proofs.Ytljclikholchmaa
