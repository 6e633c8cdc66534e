/- The entries of a table, collected and sorted; layer 10 (uniq). -/
import Derived.Test.YtmnolldomipgiaaFnB
import Derived.Laws.MakeOwn
namespace Go.Proofs.Ytmnolldomipgiaa
open Go.RowKit Go.Shelf Go.Maps
attribute [local go_sem] Oper.semAt_some wide_fn wide_depth

theorem n_entries (w : World) : Calls Try.prog 23 #[.pointer none] w (EntP [] w) := by
  go_enter Try.func23, Try.ntmps23
  go_wp2
  go_ret
  exact ⟨none, 0, rfl, fun h => absurd h (by decide), Below.refl _ _⟩
theorem run_All (b : Option Nat) (w : World) : Calls Try.prog 24 #[.map b] w fun e w' => e = .returned (.func (.func 27) #[] #[.pointer (some ⟨w.heap.size, 0, none⟩)]) ∧ w.alloc (.cells #[.map b] 48) = w' := by
  go_enter Try.func24, Try.ntmps24
  go_wp2
  go_ret
  exact ⟨rfl, rfl⟩
theorem info62 : (Try.prog.info? 62).map (fun i => (i.zero, i.size, i.bytes)) = some (some (.agg #[.int .i64 0, .int .i64 0, .int .i64 0]), 3, 24) := by kernel_rfl
theorem eql_nilFunc48 (p : Option Addr) (W : World) : (binOp .eql 55 (.func (.func 27) #[] #[.pointer p]) Value.nilFunc).run Try.prog W = .ok (.bool false) W := by kernel_rfl
theorem own_holdsP {β : Type} (Z Bo : Nat) (f : β → List En) : Own (fun s V => ∃ v, Blk V Bo 59 #[v] ∧ OwnP V Z v (f s)) := by
  intro s X Y row hs hg hr
  obtain ⟨v, h1, h2⟩ := hs
  obtain ⟨v', h3, h4, _⟩ := holdsRow_own Z Bo 59 62 3 (fun s => (f s).length) (fun s => enC (f s)) (fun _ _ => True) s X Y row ⟨v, h1, h2, trivial⟩ hg hr
  exact ⟨v', h3, h4⟩
theorem ownP_form {w : World} {base : Nat} {v : Value} {l : List En} (h : OwnP w base v l) : ∃ A c, v = .slice A l.length c := by
  rcases h.2 with ⟨rfl, h0⟩ | ⟨g, cap, cur, rfl, _⟩
  · exact ⟨none, 0, by rw [h0]⟩
  · exact ⟨_, _, rfl⟩
theorem OwnP.below {w w' : World} {B v l} (h : OwnP w B v l) (hb : Below w.heap.size w w') : OwnP w' B v l := own_keep h (fun b _ hlt => hb.block b hlt)
theorem enC_push (l : List En) (x : En) : enC (l ++ [x]) = enC l ++ enL x := by unfold enC; rw [List.flatMap_append]; simp
theorem len_sub : ∀ {pre M : List En}, pre.Nodup → (∀ y ∈ pre, y ∈ M) → pre.length ≤ M.length
  | [], _, _, _ => Nat.zero_le _
  | x :: t, M, hn, hs => by
    obtain ⟨h1, h2⟩ := List.nodup_cons.1 hn
    have hx := hs x (List.mem_cons_self ..)
    have h3 := len_sub (M := M.erase x) h2 (fun y hy => (List.mem_erase_of_ne (fun e => h1 (by rw [← e]; exact hy))).2 (hs y (List.mem_cons_of_mem _ hy)))
    have h4 := List.length_erase_of_mem hx
    have h5 := List.length_pos_of_mem hx
    simp only [List.length_cons]
    omega
/-- The state of the collection. -/
def EI (w : World) (Z Y b : Nat) (M pre : List En) (V : World) : Prop := (((∃ v, Blk V Y 59 #[v] ∧ OwnP V Z v pre) ∧ Blk V (Y + 1) 48 #[.map (some b)]) ∧ Below Z w V) ∧ (pre.Nodup ∧ ∀ y ∈ pre, y ∈ M)
theorem ei_kept {w : World} {Z Y b : Nat} {M pre pre' : List En} {V V' : World} (h : EI w Z Y b M pre V) (h' : EI w Z Y b M pre' V') (hb : b < Z) : Kept (fun x => x = b ∨ x = Y + 1) V V' := by
  rintro x (rfl | rfl)
  · exact (h'.1.2.block x hb).trans (h.1.2.block x hb).symm
  · exact h'.1.1.2.trans h.1.1.2.symm
set_option maxRecDepth 100000 in
set_option maxHeartbeats 4000000 in
theorem e_entries {w : World} {T b n : Nat} {M : List En} (h : Tb w T b n M) (hs : Srt M) (hM : M.length ≤ 1000000) : Calls Try.prog 23 #[ptr T] w (EntP M w) := by
  have t0 := h.t.cell 0
  have hl := h.u.len 3
  simp only [List.getElem?_toArray, List.getElem?_cons_zero] at t0
  obtain ⟨m, hm⟩ : ∃ m, M.length = m := ⟨_, rfl⟩
  rw [hm] at hl
  obtain ⟨i0, hi0, hz0, hz1, hz2⟩ := info_parts info62
  obtain ⟨W1, hmk, hown, hg⟩ := run_make_own w (P := Try.prog) w.heap.size 59 62 i0 _ 3 Try.underlying59 hi0 hz0 hz1 .i64 .i64 m (by rw [hz2]; omega) (by unfold maxLen; omega) (Nat.le_refl _)
  obtain ⟨Z, hZ⟩ : ∃ Z, w.heap.size = Z := ⟨_, rfl⟩
  rw [hZ] at hmk hown
  obtain ⟨Y, hY⟩ : ∃ Y, W1.heap.size = Y := ⟨_, rfl⟩
  have hT : T < w.heap.size := h.t.lt
  have hzl := hg.size
  have hZY : Z < Y := by
    have h2 := (World.ownsRow.lt hown Z rfl).2
    omega
  obtain ⟨W2, hW2⟩ : ∃ W2, W1.alloc (.cells #[.slice (some ⟨Z, 0, none⟩) 0 m] 59) = W2 := ⟨_, rfl⟩
  have hs2 : W2.heap.size = Y + 1 := by rw [← hW2]; simp [hY]
  obtain ⟨W0, hW0⟩ : ∃ W0, W2.alloc (.cells #[.map (some b)] 48) = W0 := ⟨_, rfl⟩
  have hb1 : Below Z w W1 := (Below.refl _ _).grown hg (by omega) (fun k e => by cases e)
  have hb2 : Below Z w W2 := by rw [← hW2]; exact hb1.alloc (by omega) _
  have hb0 : Below Z w W0 := by rw [← hW0]; exact hb2.alloc (by omega) _
  have t01 : W1.cell? ⟨T, 0, none⟩ = some (.map (some b)) := (hb1.cell (by show T < Z; omega)).trans t0
  have t02 : W2.cell? ⟨T, 0, none⟩ = some (.map (some b)) := (hb2.cell (by show T < Z; omega)).trans t0
  have hq := eql_nilFunc48 (some ⟨Y + 1, 0, none⟩)
  unfold ptr
  refine (callsIn_wide (n := 0)).1 ?_
  refine callsIn_of_wp_marks Try.func23 rfl trivial ?_ rfl
  simp only [Try.ntmps23, List.size_toArray, List.length_cons, List.length_nil, Nat.reduceAdd, Nat.reduceSub, Array.replicate_succ, Array.replicate_zero, List.push_toArray, List.append_toArray, List.nil_append, List.cons_append]
  have HB0 := Lib.hid hb0
  have HZY := Lib.hid hZY
  have HT := Lib.hid hT
  have HG := Lib.hid hg
  have HOW := Lib.hid hown
  have HH := Lib.hid h
  have HSS := Lib.hid hs2
  have HYY := Lib.hid hY
  clear hb1 hb2 hb0 hZY hT hzl hg hown h
  gi_wp2_with (gi_at_call 24; refine (callsIn_wide.2 (run_All _ _)).mono ?_; rintro e w1 ⟨rfl, rfl⟩)
  obtain ⟨hbl, hTl⟩ : b < Z ∧ T < Z := ⟨hZ ▸ HH.out.u.lt, hZ ▸ HT.out⟩
  have hzy := HZY.out
  have hsz : W0.heap.size = Y + 2 := by rw [← hW0]; simp [hs2]
  have b1 : Blk W0 Y 59 #[.slice (some ⟨Z, 0, none⟩) 0 m] := by
    rw [← hW0, ← hW2, ← HYY.out]; exact (Blk.new W1 59 _).alloc _
  have b2 : Blk W0 (Y + 1) 48 #[.map (some b)] := by
    have h1 := Blk.new W2 48 #[.map (some b)]
    rw [hs2, hW0] at h1; exact h1
  have o1 : OwnP W0 Z (.slice (some ⟨Z, 0, none⟩) 0 m) [] := by
    rw [← hW0, ← hW2]
    exact World.ownsRow.alloc (World.ownsRow.alloc HOW.out _) _
  have hb0 := HB0.out
  have hUT : UT W0 b n M := HH.out.u.below (hZ.symm ▸ hb0) HH.out.u.lt
  have hit := iter_all (S := fun x => x = b ∨ x = Y + 1) hUT hs.nodup b2 (fun _ => false) (.inl rfl) (.inr rfl) (by rintro x (rfl | rfl) <;> omega)
  have hnd := hs.nodup
  refine wp_range (gf := 27) (lb := #[.pointer (some ⟨Y + 1, 0, none⟩)]) rfl (enters_of Try.func27 (by kernel_rfl) rfl) hit (Below.refl _ _) (by rintro x (rfl | rfl) <;> omega) ?hps
    (EI w Z Y b M) (fun c _ _ => False) ?hI ?hIx ?h0
    (fun pre pre' a' V => ∃ e Bx, e ∈ M ∧ e ∉ pre ∧ pre' = pre ++ [e] ∧ Blk V Bx 53 #[.int .i64 e.lo, .int .i64 e.hi] ∧ a' = { tmps := #[.pointer (some ⟨T, 0, none⟩), undef, .slice none 0 0, .pointer (some ⟨Y, 0, none⟩), .pointer (some ⟨Bx, 0, none⟩), .int .i64 e.id, .pointer (some ⟨T, 0, none⟩), .bool false, .pointer (some ⟨T, 0, none⟩), .pointer (some ⟨T, 0, none⟩), .pointer (some ⟨T, 0, none⟩), .map (some b), .int .i64 m, .slice (some ⟨Z, 0, none⟩) 0 m, .pointer (some ⟨T, 0, none⟩), .pointer (some ⟨T, 0, none⟩), .pointer (some ⟨T, 0, none⟩), .map (some b), .func (.func 27) #[] #[.pointer (some ⟨Y + 1, 0, none⟩)], .agg #[.int .i64 e.lo, .int .i64 e.hi], .int .i64 e.id, undef, undef, undef, undef, undef, undef, undef, undef, undef], defers := [] })
    ?hAx ?assign ?body ?done ?stop
  case hps =>
    rintro k x k' _ ⟨e, _, _, _, _, rfl, _⟩
    rfl
  case hI =>
    exact OwnFrom.and (OwnFrom.and (OwnFrom.and (Own.from (own_holdsP Z Y (fun k => k)) _) (Own.from (own_blk _ _ _) _)) (ownFrom_below (by omega) (by omega))) (ownFrom_pure _ _)
  case hIx =>
    intro c s X Y row h
    exact h.elim
  case h0 =>
    intro V hV
    exact ⟨⟨⟨⟨_, b1.below hV b1.lt, o1.below hV⟩, b2.below hV b2.lt⟩, hb0.trans (hV.mono (by omega))⟩, List.nodup_nil, fun _ h => by cases h⟩
  case hAx =>
    rintro k k' a' _ X Y row ⟨e, Bx, h1, h2, h3, h4, h5⟩ hg hr
    exact ⟨e, Bx, h1, h2, h3, own_blk Bx 53 _ () X Y row h4 hg (fun r e => (hr r e).2), h5⟩
  case assign =>
    rintro l k x k' V K ⟨e, he, hne, _, _, rfl, rfl⟩ hI hz hK
    have hI2 : EI w Z Y b M k (V.alloc (.cells #[.int .i64 e.lo, .int .i64 e.hi] 53)) := ⟨⟨⟨by
      obtain ⟨⟨⟨⟨v, q1, q2⟩, _⟩, _⟩, _⟩ := hI
      exact ⟨v, q1.alloc _, q2.below ((Below.refl _ _).alloc (Nat.le_refl _) _)⟩, hI.1.1.2.alloc _⟩, hI.1.2.alloc (by omega) _⟩, hI.2⟩
    have HN := Lib.hid (Blk.new V 53 #[.int .i64 e.lo, .int .i64 e.hi])
    have HK := Lib.hid (hK _ (V.alloc (.cells #[.int .i64 e.lo, .int .i64 e.hi] 53)) (KeepsP.below ((Below.refl _ _).alloc (Nat.le_refl _) _)) (ei_kept hI hI2 hbl)
      hI2 ⟨e, V.heap.size, he, hne, rfl, HN.out, rfl⟩)
    clear hK hI2 hI he hne hz hq hZ hW0 hW2 hsz hb0 b1 b2 o1 hUT hit hnd hM hs2 hY t0 t01 t02 hmk hl hbl hTl hs hzy
    unfold enY
    generalize e.lo = x0 at *
    generalize e.hi = x1 at *
    generalize e.id = x2 at *
    gi_wp2
    exact HK.out
  case body =>
    rintro l pre pre' a' V hI ⟨e, Bx, he, hne, rfl, hBx, rfl⟩ hz
    have hI0 := hI
    obtain ⟨⟨⟨⟨v, q1, q2⟩, q4⟩, q5⟩, q6, q7⟩ := hI
    have hk1 : pre.length + 1 ≤ m := by
      have := len_sub (pre := e :: pre) (M := M) (List.nodup_cons.2 ⟨hne, q6⟩) (fun y hy => by
        rcases List.mem_cons.1 hy with rfl | h
        · exact he
        · exact q7 y h)
      simp at this
      omega
    obtain ⟨A, c, rfl⟩ := ownP_form q2
    unfold OwnP at q2
    obtain ⟨k, hkk⟩ : ∃ k, pre.length = k := ⟨_, rfl⟩
    rw [hkk] at q1 q2 hk1
    have hZV : Z ≤ V.heap.size := by omega
    have hmx : k + 1 ≤ maxLen := by unfold maxLen; omega
    have hby : (k + 1) * 24 ≤ 140737488355328 := by omega
    have hbs : Z ≤ (V.alloc (.cells (enR e) 62)).heap.size := by simp; omega
    have hv : Boxed V Y 59 (.slice A k c) := q1
    have hown0 := World.ownsRow.alloc q2 (.cells (enR e) 62)
    have HEND := Lib.hid (show ∀ v2 w1, w1.ownsRow Z 62 3 v2 (k + 1) (enC pre ++ enL e) → (V.alloc (.cells (enR e) 62)).grownBy w1 (Value.slice A k c).ownBlock →
        KeepsP (fun _ => false) W0.heap.size V (w1.setCell ⟨Y, 0, none⟩ v2) ∧ Kept (fun x => x = b ∨ x = Y + 1) V (w1.setCell ⟨Y, 0, none⟩ v2) ∧
        EI w Z Y b M (pre ++ [e]) (w1.setCell ⟨Y, 0, none⟩ v2) from by
      intro v2 w1 hown hg
      obtain ⟨g1, g2, g3, g4, g5⟩ := hv.appended (by decide) q2 hZV (by omega) hown hg
      have hal : Below V.heap.size V (V.alloc (.cells (enR e) 62)) := (Below.refl _ _).alloc (Nat.le_refl _) _
      have hr : ∀ b, (Value.slice A k c).ownBlock = some b → Z ≤ b ∧ ∃ cs, Blk (V.alloc (.cells (enR e) 62)) b 62 cs := fun b hb => own_row hown0 b hb
      have hne' : ∀ b t cs, (Value.slice A k c).ownBlock = some b → t ≠ 62 → Blk V b t cs → False := fun b t cs hb ht hB => by
        obtain ⟨_, ds, hD⟩ := hr b hb
        exact ht (Blk.same_type (hB.alloc _) hD)
      have hB : ∀ (g t : Nat) (cs : Array Value), Blk V g t cs → t ≠ 62 → Blk w1 g t cs := fun g t cs hB ht => (hg.block g (hB.alloc _).lt (fun e => hne' g t cs e.symm ht hB)).trans (hB.alloc _)
      have hI' : EI w Z Y b M (pre ++ [e]) (w1.setCell ⟨Y, 0, none⟩ v2) := by
        refine ⟨⟨⟨⟨_, g2, ?_⟩, (hB _ _ _ q4 (by decide)).set_other (by omega) _ _⟩, q5.trans g5⟩, ?_, ?_⟩
        · unfold OwnP
          rw [enC_push, List.length_append, hkk]
          exact g3
        · exact List.nodup_append.2 ⟨q6, List.nodup_cons.2 ⟨by simp, List.nodup_nil⟩, fun a ha b hb => by simp at hb; subst hb; exact fun q => hne (q ▸ ha)⟩
        · intro y hy
          rcases List.mem_append.1 hy with h | h
          · exact q7 y h
          · simp at h; rw [h]; exact he
      refine ⟨?_, ei_kept hI0 hI' hbl, hI'⟩
      refine ((KeepsP.below hal).trans (KeepsP.grown hg fun b e => .inr fun o ho => ?_)).trans (KeepsP.set _ _ _ _ (.inl (by omega)))
      obtain ⟨_, ds, hD⟩ := hr b e
      unfold Blk at hD
      rw [hD] at ho
      cases ho
      rfl)
    have e5 := q1.cell 0
    simp at e5
    have hH5 : ∀ w1, (V.alloc (.cells (enR e) 62)).grownBy w1 (Value.slice A k c).ownBlock → w1.cell? ⟨Y, 0, none⟩ = some (.slice A k c) ∧ w1.frozen? ⟨Y, 0, none⟩ = false := fun w1 hg => by
      have hb1 : Blk w1 Y 59 #[.slice A k c] := (hg.block Y (q1.alloc _).lt (fun e => by
        obtain ⟨_, ds, hD⟩ := own_row hown0 _ e.symm
        have := Blk.same_type (q1.alloc _) hD
        cases this)).trans (q1.alloc _)
      exact ⟨by have := hb1.cell 0; simpa using this, hb1.frozen 0⟩
    have HH5 := Lib.hid hH5
    have HO := Lib.hid hown0
    have c0 := hBx.cell 0
    have c1 := hBx.cell 1
    simp only [List.getElem?_toArray, List.getElem?_cons_zero, List.getElem?_cons_succ] at c0 c1
    have HM := Lib.hid hmx
    have HB := Lib.hid hby
    have HBS := Lib.hid hbs
    have HL := Lib.hid (cells_three V e 62)
    have HO1 := Lib.hid (en_one e)
    clear hv hown0 hH5 q1 q2 q4 q5 q6 q7 hI0 he hne hkk hk1 hBx hz hZV hmx hby hbs hq hZ hW0 hW2 hsz hb0 b1 b2 o1 hUT hit hnd hM hs2 hY t0 t01 t02 hmk hl hbl hTl hs hzy HB0 HT HG HOW HH HSS HYY HZY hm
    obtain ⟨x0, x1, x2⟩ := e
    unfold enR at *
    dsimp only at *
    gi_wp2_with (gi_at_builtin; refine wpListIn_append_own _ rfl _ _ 59 rfl Z 62 i0 _ 3 24 Try.underlying59 hi0 hz0 hz1 hz2 rfl (by decide) _ _ _ rfl HO.out ⟨V.heap.size, 0, none⟩ 1 1 (enL ⟨x0, x1, x2⟩) rfl rfl HL.out HO1.out HM.out HB.out HBS.out ?_; intro v2 w1 hown hg1 _; obtain ⟨g', cap', rfl⟩ := ownsRow_succ hown; have HE := Lib.hid (HEND.out _ _ hown hg1); obtain ⟨z1, z2⟩ := HH5.out _ hg1; clear hown hg1 HEND HH5 HO c0 c1 e5 hi0 hz0 hz1 hz2)
    exact HE.out
  case done =>
    rintro D L V hD hperm ⟨⟨⟨⟨v, q1, q2⟩, q4⟩, q5⟩, q6, q7⟩ hDf
    obtain ⟨A, c, rfl⟩ := ownP_form q2
    have hLl := hperm.length_eq
    have hVD := (Array.getElem?_eq_some_iff.1 hDf).1
    have HS := Lib.hid (sort_ents q2 hperm hs (by omega) (by omega))
    have e5 := q1.cell 0
    simp at e5
    have HE : Hid (∀ U, RowX Z U A M → Below Z V U → (∀ b, b < V.heap.size → (Value.slice A L.length c).ownBlock ≠ some b → U.heap[b]? = V.heap[b]?) →
        U.cell? ⟨Y, 0, none⟩ = some (.slice A L.length c) ∧ U.heap[D]? = some (.deferred (some [])) ∧ RowX Z (U.putObj D (.deferred none)) A M ∧ Below Z w (U.putObj D (.deferred none))) := Lib.hid (fun U r1 r2 r3 => by
      have hneY : (Value.slice A L.length c).ownBlock ≠ some Y := fun e => by
        obtain ⟨_, ds, hD'⟩ := own_row q2 _ e
        have := Blk.same_type q1 hD'
        cases this
      have hneD : (Value.slice A L.length c).ownBlock ≠ some D := fun e => by
        obtain ⟨_, ds, hD'⟩ := own_row q2 _ e
        unfold Blk at hD'
        rw [hDf] at hD'
        cases hD'
      have hY' : Blk U Y 59 #[.slice A L.length c] := (r3 Y q1.lt hneY).trans q1
      have hD' : U.heap[D]? = some (.deferred (some [])) := (r3 D hVD hneD).trans hDf
      refine ⟨by have := hY'.cell 0; simpa using this, hD', fun h0 => ?_, (q5.trans r2).grown (grownBy_putObj' U D (.deferred none)) (by have := r2.size; omega) (fun k e => by cases e; omega)⟩
      obtain ⟨g, f, cs, h1, h2, h3, h4⟩ := r1 h0
      refine ⟨g, f, cs, h1, h2, (World.putObj_heap_other (fun e => ?_)).trans h3, h4⟩
      unfold Blk at h3
      rw [e, hD'] at h3
      cases h3)
    have HLl := Lib.hid (hLl.trans hm)
    have HRM : Hid (∀ U e, (∃ A c, e = .returned (.slice A m c) ∧ RowX Z U A M ∧ Below Z w U) → EntP M w e U) := Lib.hid (fun U e h => by
      obtain ⟨A, c, h1, h2, h3⟩ := h
      exact ⟨A, c, by rw [hm]; exact h1, by rw [hZ]; exact h2, by rw [hZ]; exact h3⟩)
    rw [HLl.out] at HS HE e5
    clear q1 q2 q4 q5 q6 q7 hperm hLl hVD hD hDf hi0 hz0 hz1 hz2 hq hZ hW0 hW2 hsz hb0 b1 b2 o1 hUT hit hnd hM hs2 hY t0 t01 t02 hmk hl hbl hTl hs hzy HB0 HT HG HOW HH HSS HYY HZY hm
    gi_wp2_with (gi_at_call 25; refine (callsIn_wide.2 HS.out).mono ?_; rintro e U ⟨rfl, r1, r2, r3⟩; obtain ⟨f5, fD, f1, f2⟩ := HE.out U r1 r2 r3; have FD := Lib.hid fD; have F1 := Lib.hid f1; have F2 := Lib.hid f2; clear r1 r2 r3 fD f1 f2 e5 HE HS)
    refine ⟨by simp, .inl ⟨_, _, rfl, run_takeDeferred FD.out, ?_⟩⟩
    exact ⟨_, results_tmp rfl _ _ _, HRM.out _ _ ⟨_, _, rfl, F1.out, F2.out⟩⟩
  case stop =>
    rintro D c k V hD h
    exact h.elim
end Go.Proofs.Ytmnolldomipgiaa
