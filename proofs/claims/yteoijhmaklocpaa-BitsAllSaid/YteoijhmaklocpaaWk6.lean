/- BitsAll, over the contracts. -/
import Derived.Test.YteoijhmaklocpaaFna
import Derived.Test.YteoijhmaklocpaaWk1
namespace Go.Proofs.Yteoijhmaklocpaa
open Go.RowKit Go.Shelf
attribute [local go_sem] Oper.semAt_some wide_fn wide_depth

theorem eql_nilFunc (p : Option Addr) (W : World) : (binOp .eql 41 (.func (.func 25) #[] #[.pointer p]) Value.nilFunc).run Try.prog W = .ok (.bool false) W := by kernel_rfl
theorem own_blk {β : Type} (g : Nat) (t : TypeId) (cs : Array Value) : Go.Own (fun (_ : β) W => Blk W g t cs) := fun _ X Y row hs hg hrow =>
  (hg.block g (Blk.lt hs) (fun e => by
    obtain ⟨o, ho, hc⟩ := hrow g e.symm
    unfold Blk at hs
    rw [hs] at ho
    cases ho
    cases hc)).trans hs
theorem own_blkf {β : Type} (g : Nat) (t : TypeId) (f : β → Array Value) : Go.Own (fun (k : β) W => Blk W g t (f k)) := fun k X Y row hs hg hrow =>
  own_blk g t (f k) () X Y row hs hg hrow
theorem own_rowsA {β : Type} (base K : Nat) (v : Value) (vs : List Value) : Go.Own (fun (_ : β) W => RowsA W base v K vs) := fun _ X Y row hs hg hrow => by
  have hn : ∀ {e size n : Nat} {y : Value} {xs : List Value}, X.ownsRow base e size y n xs → ∀ k, y.ownBlock = some k → row ≠ some k := fun hy k e1 e2 => by
    obtain ⟨_, cs, c1⟩ := own_rowA hy k e1
    obtain ⟨o, ho, hc⟩ := hrow k e2
    unfold Blk at c1
    rw [c1] at ho
    cases ho
    cases hc
  exact ⟨own_grownA hs.own hg (hn hs.own), fun k x hx => own_grownA (hs.row k x hx) hg (hn (hs.row k x hx))⟩
theorem own_atA {w : World} {base K n c : Nat} {Av : Option Addr} {vs : List Value} (h : RowsA w base (.slice Av n c) K vs) {k : Nat} {x : Value} (hx : vs[k]? = some x) : ∃ g, Av = some ⟨g, 0, none⟩ ∧ w.cell? ⟨g, k, none⟩ = some x := by
  have hk := (List.getElem?_eq_some_iff.1 hx).1
  rcases h.own.2 with ⟨_, h0⟩ | ⟨g, cap, cur, hv, hg, hh, hn, hc, hsz, htk⟩
  · omega
  · simp only [Value.slice.injEq] at hv
    obtain ⟨rfl, _, rfl⟩ := hv
    refine ⟨g, rfl, ?_⟩
    have hB : Blk w g 23 cur := hh
    rw [hB.cell, ← hx, ← htk, List.getElem?_take_of_lt (by omega), Array.getElem?_toList]
theorem RowsA.form {w : World} {base K : Nat} {v : Value} {vs : List Value} (h : RowsA w base v K vs) : ∃ A c, v = .slice A vs.length c := by
  rcases h.own.2 with ⟨rfl, h0⟩ | ⟨g, cap, cur, rfl, _⟩
  · exact ⟨none, 0, by rw [h0]⟩
  · exact ⟨_, _, rfl⟩
set_option maxRecDepth 100000 in
set_option maxHeartbeats 2000000 in
theorem bitsAll_walk (many most : Int) (w : World) (_h1 : (Lit.int .i64 many).wf = true) (h2 : (Lit.int .u16 most).wf = true) :
    Calls Try.prog 6 #[.int .i64 many, .int .u16 most] w fun e w' => e = .returned (.bool true) ∧ Below w.heap.size w w' := by
  obtain ⟨m2, rfl, hm2⟩ : ∃ m : Nat, most = (m : Int) ∧ m ≤ 65535 := by
    have hb := bounds_u16 h2
    exact ⟨most.toNat, by omega, by omega⟩
  obtain ⟨K, hK⟩ : ∃ K, tabN many = K := ⟨_, rfl⟩
  have hK12 : K ≤ 12 := by rw [← hK]; exact tabN_le many
  obtain ⟨Z, hZ⟩ : ∃ Z, w.heap.size = Z := ⟨_, rfl⟩
  have HRA := Lib.hid (ref_All many ((w.alloc (.cells #[.int .u16 (m2 : Int)] 37)).alloc (.cells #[.bool false] 4)))
  have HBA := Lib.hid (bits_All many)
  rw [hK] at HRA HBA
  rw [hZ]
  clear _h1 h2
  refine (callsIn_wide (n := 0)).1 ?_
  refine callsIn_of_wp_marks Try.func6 rfl trivial ?_ rfl
  simp only [Try.ntmps6, List.size_toArray, List.length_cons, List.length_nil, Nat.reduceAdd, Nat.reduceSub, Array.replicate_succ, Array.replicate_zero, List.push_toArray, List.append_toArray, List.nil_append, List.cons_append]
  gi_wp2_with (first | (gi_at_call 22; refine (callsIn_wide.2 HRA.out).mono ?_; rintro e w1 ⟨v, vs, rfl, hr, hvs, hb1⟩; obtain ⟨Av, cv, rfl⟩ := hr.form; have HR := Lib.hid hr; have HV := Lib.hid hvs; have HB1 := Lib.hid hb1; clear hr hvs hb1 HRA) | (gi_at_call 23; refine (callsIn_wide.2 (HBA.out _)).mono ?_; rintro e w2 ⟨rfl, hw2⟩; have HW2 := Lib.hid hw2; have hq := eql_nilFunc (some ⟨w1.heap.size, 0, none⟩); clear hw2 HBA))
  obtain ⟨B1, hB1⟩ : ∃ B1, w1.heap.size = B1 := ⟨_, rfl⟩
  obtain ⟨E, hE⟩ : ∃ E, vs.length = E := ⟨_, rfl⟩
  have hz2 : w2.heap.size = B1 + 1 := by rw [← HW2.out]; simp; omega
  have hZB : Z + 2 ≤ B1 := by have := HB1.out.size; simp at this; omega
  have hEp : E = 2 ^ K := by rw [← hE, HV.out]
  rw [hB1, hz2, hE]
  obtain ⟨W0, hW0⟩ : ∃ W0, (w2.alloc (.cells #[.slice Av E cv] 38)).alloc (.cells #[.int .i64 0] 3) = W0 := ⟨_, rfl⟩
  have hsz : W0.heap.size = B1 + 3 := by rw [← hW0]; simp; omega
  have hb12 : Below B1 w1 W0 := by
    rw [← hW0, ← HW2.out]
    exact (((Below.refl _ _).alloc (by omega) _).alloc (by simp; omega) _).alloc (by simp; omega) _
  have hbw : Below Z w W0 := by
    have h3 : Below Z w ((w.alloc (.cells #[.int .u16 (m2 : Int)] 37)).alloc (.cells #[.bool false] 4)) := ((Below.refl _ _).alloc (by omega) _).alloc (by simp; omega) _
    exact (h3.trans (HB1.out.mono (by simp; omega))).trans (hb12.mono (by omega))
  have b0 : Blk W0 Z 37 #[.int .u16 (m2 : Int)] := by
    have h3 : Blk ((w.alloc (.cells #[.int .u16 (m2 : Int)] 37)).alloc (.cells #[.bool false] 4)) Z 37 #[.int .u16 (m2 : Int)] := by
      have h4 := Blk.new w 37 #[.int .u16 (m2 : Int)]
      rw [hZ] at h4
      exact h4.below (B := Z + 1) ((Below.refl _ _).alloc (by simp; omega) _) (by omega)
    exact (h3.below HB1.out (by simp; omega)).below hb12 (by omega)
  have b1 : Blk W0 (Z + 1) 4 #[.bool false] := by
    have h3 := Blk.new (w.alloc (.cells #[.int .u16 (m2 : Int)] 37)) 4 #[.bool false]
    rw [World.size_alloc, hZ] at h3
    exact (h3.below HB1.out (by simp; omega)).below hb12 (by omega)
  have b2 : Blk W0 B1 3 #[.int .i64 (K : Int)] := by
    have h3 := Blk.new w1 3 #[.int .i64 (K : Int)]
    rw [HW2.out, hB1] at h3
    rw [← hW0]
    exact h3.below (B := B1 + 1) (((Below.refl _ _).alloc (by omega) _).alloc (by simp; omega) _) (by omega)
  have b3 : Blk W0 (B1 + 1) 38 #[.slice Av E cv] := by
    have h3 := Blk.new w2 38 #[.slice Av E cv]
    rw [hz2] at h3
    rw [← hW0]
    exact h3.below (B := B1 + 2) ((Below.refl _ _).alloc (by simp; omega) _) (by omega)
  have b4 : Blk W0 (B1 + 2) 3 #[.int .i64 0] := by
    have h3 := Blk.new (w2.alloc (.cells #[.slice Av E cv] 38)) 3 #[.int .i64 0]
    rw [World.size_alloc, hz2] at h3
    rw [← hW0]
    exact h3
  have hR0 : RowsA W0 (Z + 2) (.slice Av E cv) K vs := by
    have h3 := HR.out.keep (hb12.mono (by omega) |> fun h => (show Below w1.heap.size w1 W0 by rw [hB1]; exact h))
    have e1 : ((w.alloc (.cells #[.int .u16 (m2 : Int)] 37)).alloc (.cells #[.bool false] 4)).heap.size = Z + 2 := by simp; omega
    rw [e1, hE] at h3
    exact h3
  have hit := iter_all (S := fun b => b = B1) hK12 b2 rfl (fun b hb => by omega)
  rw [← hEp] at hit
  rw [hW0]
  have HIT := Lib.hid hit
  have HE := Lib.hid hE
  have HEP := Lib.hid hEp
  have HS := Lib.hid hsz
  have HI0 := Lib.hid (show ∀ B, Below W0.heap.size W0 B → ((((((Blk B (B1 + 2) 3 #[.int .i64 ((0 : Nat) : Int)] ∧ Blk B (B1 + 1) 38 #[.slice Av E cv]) ∧ Blk B Z 37 #[.int .u16 (m2 : Int)]) ∧ Blk B (Z + 1) 4 #[.bool false]) ∧ RowsA B (Z + 2) (.slice Av E cv) K vs) ∧ Below Z w B) ∧ 0 ≤ m2) from
    fun B hb => ⟨⟨⟨⟨⟨⟨b4.below hb b4.lt, b3.below hb b3.lt⟩, b0.below hb b0.lt⟩, b1.below hb b1.lt⟩, hR0.keep hb⟩, hbw.trans (hb.mono (by omega))⟩, Nat.zero_le _⟩)
  clear b0 b1 b2 b3 b4 hR0 hbw hb12 hW0 HW2 HB1 HR HV hq hit hK hz2 hB1 hE hEp
  refine wp_range (gf := 25) (lb := #[.pointer (some ⟨B1, 0, none⟩)]) rfl (enters_of Try.func25 (by kernel_rfl) rfl) HIT.out (Below.refl _ _) (fun b hb => by have := HS.out; omega) (fun k x V hx => by obtain ⟨g, rfl, _⟩ := hx; rfl)
    (fun k V => (((((Blk V (B1 + 2) 3 #[.int .i64 (k : Int)] ∧ Blk V (B1 + 1) 38 #[.slice Av E cv]) ∧ Blk V Z 37 #[.int .u16 (m2 : Int)]) ∧ Blk V (Z + 1) 4 #[.bool false]) ∧ RowsA V (Z + 2) (.slice Av E cv) K vs) ∧ Below Z w V) ∧ k ≤ m2)
    (fun c k V => (((((Blk V (B1 + 2) 3 #[.int .i64 (m2 : Int)] ∧ Blk V (B1 + 1) 38 #[.slice Av E cv]) ∧ Blk V Z 37 #[.int .u16 (m2 : Int)]) ∧ Blk V (Z + 1) 4 #[.bool false]) ∧ RowsA V (Z + 2) (.slice Av E cv) K vs) ∧ Below Z w V) ∧ c = .exit 0)
    ?hI ?hIx HI0.out
    (fun k a' V => ∃ g, Blk V g 4 (boolRow (ofL k K)) ∧ a' = { tmps := #[.int .i64 many, .int .u16 (m2 : Int), undef, .pointer (some ⟨Z, 0, none⟩), .pointer (some ⟨Z + 1, 0, none⟩), .pointer (some ⟨B1 + 1, 0, none⟩), .func (.func 25) #[] #[.pointer (some ⟨B1, 0, none⟩)],
        .pointer (some ⟨B1 + 1 + 1, 0, none⟩), .slice (some ⟨g, 0, none⟩) K K, .int .i64 many, .slice Av E cv, .int .i64 many, .func (.func 25) #[] #[.pointer (some ⟨B1, 0, none⟩)], .func (.func 25) #[] #[.pointer (some ⟨B1, 0, none⟩)], .bool false,
        .func (.func 25) #[] #[.pointer (some ⟨B1, 0, none⟩)], .slice (some ⟨g, 0, none⟩) K K, undef, undef, undef, undef, undef, undef, undef, undef, undef, undef, undef, undef, undef, undef, undef, undef, undef, undef, undef, undef, undef, undef, undef, undef, undef, undef, undef, undef, undef, undef, undef, undef], defers := [] })
    ?hAx ?assign ?body ?done ?stop
  case hI =>
    rw [HS.out]
    exact OwnFrom.and (OwnFrom.and (OwnFrom.and (OwnFrom.and (OwnFrom.and (OwnFrom.and (Go.Own.from (own_blkf (B1 + 2) 3 (fun k : Nat => #[.int .i64 (k : Int)])) _) (Go.Own.from (own_blk _ _ _) _)) (Go.Own.from (own_blk _ _ _) _)) (Go.Own.from (own_blk _ _ _) _)) (Go.Own.from (own_rowsA _ _ _ _) _)) (ownFrom_below (by omega) (by omega))) (ownFrom_pure _ _)
  case hIx =>
    intro c
    rw [HS.out]
    exact OwnFrom.and (OwnFrom.and (OwnFrom.and (OwnFrom.and (OwnFrom.and (OwnFrom.and (Go.Own.from (own_blk _ _ _) _) (Go.Own.from (own_blk _ _ _) _)) (Go.Own.from (own_blk _ _ _) _)) (Go.Own.from (own_blk _ _ _) _)) (Go.Own.from (own_rowsA _ _ _ _) _)) (ownFrom_below (by omega) (by omega))) (ownFrom_pure _ _)
  case hAx =>
    rintro k a' _ X Y row ⟨g, h1, h2⟩ hg hr
    exact ⟨g, own_blk g 4 _ () X Y row h1 hg (fun r e => (hr r e).2), h2⟩
  case assign =>
    rintro l k x V K' hk ⟨g, rfl, hg⟩ hi hz hK'
    have HK := Lib.hid (hK' _ V (KeepsP.refl _ _ _) (Kept.refl _ _) hi ⟨g, hg, rfl⟩)
    clear hK' hi hg
    gi_wp2
    exact HK.out
  case body =>
    rintro l k a' V hk ⟨⟨⟨⟨⟨⟨q1, q2⟩, q3⟩, q4⟩, q5⟩, q6⟩, q7⟩ ⟨g, hg, rfl⟩ hz
    have c1 := q1.cell 0
    have c2 := q2.cell 0
    have c3 := q3.cell 0
    have f1 := q1.frozen 0
    simp at c1 c2 c3
    have hm2' : (m2 : Int) ≤ 65535 := by omega
    by_cases hmk : m2 ≤ k
    · have hkm : k = m2 := by omega
      subst hkm
      have HX := Lib.hid (show ((((((Blk V (B1 + 2) 3 #[.int .i64 (k : Int)] ∧ Blk V (B1 + 1) 38 #[.slice Av E cv]) ∧ Blk V Z 37 #[.int .u16 (k : Int)]) ∧ Blk V (Z + 1) 4 #[.bool false]) ∧ RowsA V (Z + 2) (.slice Av E cv) K vs) ∧ Below Z w V)) from ⟨⟨⟨⟨⟨q1, q2⟩, q3⟩, q4⟩, q5⟩, q6⟩)
      clear q1 q2 q3 q4 q5 q6 hg hmk
      gi_wp2
      exact ⟨KeepsP.refl _ _ _, HX.out, rfl⟩
    · have hkm : (k : Int) < (m2 : Int) := by omega
      have hkE : (k : Int) < (E : Int) := by omega
      have hk0 : (0 : Int) ≤ (k : Int) := by omega
      have hEb : (E : Int) ≤ 4096 := by
        have h5 : E ≤ 4096 := by
          rw [HEP.out]; have := Nat.pow_le_pow_right (n := 2) (by omega) hK12; simpa using this
        omega
      obtain ⟨x, hx⟩ : ∃ x, vs[k]? = some x := ⟨_, List.getElem?_eq_getElem (by rw [HE.out]; exact hk)⟩
      have hrow := q5.row k x hx
      obtain ⟨gl, rfl, z0⟩ := own_atA q5 hx
      obtain ⟨Ax, cx, rfl, hrb⟩ := hrow.rb
      rw [ofL_len] at z0
      have hs := ref_Same (some ⟨g, 0, none⟩) Ax K cx (ofL k K) (ofL k K) V (RB.blk hg hg.lt) hrb (by rw [ofL_len]; omega) (by rw [ofL_len]; omega)
      rw [decide_eq_true rfl, ofL_len] at hs
      have HSm := Lib.hid hs
      have HEND := Lib.hid (show ∀ n : Nat, KeepsP PtA W0.heap.size V ((V.drewN n).setCell ⟨B1 + 2, 0, none⟩ (.int .i64 ((k : Int) + 1))) ∧ Kept (fun b => b = B1) V ((V.drewN n).setCell ⟨B1 + 2, 0, none⟩ (.int .i64 ((k : Int) + 1))) ∧
          ((((((Blk ((V.drewN n).setCell ⟨B1 + 2, 0, none⟩ (.int .i64 ((k : Int) + 1))) (B1 + 2) 3 #[.int .i64 ((k + 1 : Nat) : Int)] ∧ Blk ((V.drewN n).setCell ⟨B1 + 2, 0, none⟩ (.int .i64 ((k : Int) + 1))) (B1 + 1) 38 #[.slice (some ⟨gl, 0, none⟩) E cv]) ∧ Blk ((V.drewN n).setCell ⟨B1 + 2, 0, none⟩ (.int .i64 ((k : Int) + 1))) Z 37 #[.int .u16 (m2 : Int)]) ∧ Blk ((V.drewN n).setCell ⟨B1 + 2, 0, none⟩ (.int .i64 ((k : Int) + 1))) (Z + 1) 4 #[.bool false]) ∧ RowsA ((V.drewN n).setCell ⟨B1 + 2, 0, none⟩ (.int .i64 ((k : Int) + 1))) (Z + 2) (.slice (some ⟨gl, 0, none⟩) E cv) K vs) ∧ Below Z w ((V.drewN n).setCell ⟨B1 + 2, 0, none⟩ (.int .i64 ((k : Int) + 1)))) ∧ k + 1 ≤ m2) from by
        intro n
        have hdr : Below V.heap.size V (V.drewN n) := below_drewN (Below.refl _ _) n
        have hgr := grownBy_setCell' (V.drewN n) (B1 + 2) (.int .i64 ((k : Int) + 1))
        have hR1 := q5.keep hdr
        have hne : ∀ y : Value, y.ownBlock = some (B1 + 2) → ∀ e cs, Blk (V.drewN n) (B1 + 2) e cs → e = 3 := fun y _ e cs hb => Blk.same_type hb (q1.drewN n)
        have hr1 : ∀ {e size n' : Nat} {y : Value} {xs : List Value}, (V.drewN n).ownsRow (Z + 2) e size y n' xs → e ≠ 3 → ∀ q, y.ownBlock = some q → some (B1 + 2) ≠ some q := fun hy he q e1 e2 => by
          cases e2
          obtain ⟨_, cs, c5⟩ := own_rowA hy _ e1
          exact he (Blk.same_type c5 (q1.drewN n))
        refine ⟨(KeepsP.below hdr).trans (KeepsP.set _ _ _ _ (.inl (by have := HS.out; omega))), (Kept.below hdr (fun b hb => by have := HS.out; omega)).trans (Kept.set (fun e => by simp only at e; omega) _),
          ⟨⟨⟨⟨⟨⟨?_, ?_⟩, ?_⟩, ?_⟩, ⟨own_grownA hR1.own hgr (hr1 hR1.own (by decide)), fun j y hy => own_grownA (hR1.row j y hy) hgr (hr1 (hR1.row j y hy) (by decide))⟩⟩, ?_⟩, by omega⟩⟩
        · have h5 := (q1.drewN n).set_ 0 (.int .i64 ((k : Int) + 1))
          simpa using h5
        · exact (hgr.block _ (q2.drewN n).lt (fun e => by simp at e)).trans (q2.drewN n)
        · exact (hgr.block _ (q3.drewN n).lt (fun e => by simp at e; omega)).trans (q3.drewN n)
        · exact (hgr.block _ (q4.drewN n).lt (fun e => by simp at e; omega)).trans (q4.drewN n)
        · exact (below_drewN q6 n).setCell (p := ⟨B1 + 2, 0, none⟩) (by simp only; omega) _)
      clear q1 q2 q3 q4 q5 q6 hg hmk hs hrow hrb hx
      gi_wp2_with (gi_at_call 9; refine (CallsIn.inRound l (callsIn_wide.2 HSm.out)).mono ?_; rintro e w3 ⟨rfl, n, rfl⟩)
      exact HEND.out n
  case done =>
    rintro D V hD ⟨⟨⟨⟨⟨⟨q1, q2⟩, q3⟩, q4⟩, q5⟩, q6⟩, q7⟩ hDf
    have c1 := q1.cell 0
    have c2 := q2.cell 0
    have c3 := q3.cell 0
    simp at c1 c2 c3
    have hDV : D < V.heap.size := (Array.getElem?_eq_some_iff.1 hDf).1
    have hDB : Z + 1 ≠ D := by rw [HS.out] at hD; omega
    have HEND := Lib.hid (show ∀ w6, Below V.heap.size V w6 → w6.cell? ⟨Z + 1, 0, none⟩ = some (.bool false) ∧ w6.frozen? ⟨Z + 1, 0, none⟩ = false ∧ (w6.setCell ⟨Z + 1, 0, none⟩ (.bool true)).heap[D]? = some (.deferred (some [])) ∧
        ((w6.setCell ⟨Z + 1, 0, none⟩ (.bool true)).putObj D (.deferred none)).cell? ⟨Z + 1, 0, none⟩ = some (.bool true) ∧ Below Z w ((w6.setCell ⟨Z + 1, 0, none⟩ (.bool true)).putObj D (.deferred none)) from by
      intro w6 hb
      have q46 := q4.below hb q4.lt
      have hD6 : w6.heap[D]? = some (.deferred (some [])) := (hb.block D hDV).trans hDf
      have hD7 : (w6.setCell ⟨Z + 1, 0, none⟩ (.bool true)).heap[D]? = some (.deferred (some [])) := (Below.heap_setCell _ _ _ D (by simp only; omega)).trans hD6
      have h5 := q46.set_ 0 (.bool true)
      have h6 : Blk ((w6.setCell ⟨Z + 1, 0, none⟩ (.bool true)).putObj D (.deferred none)) (Z + 1) 4 #[.bool true] := (World.putObj_heap_other hDB).trans (show Blk _ _ _ _ by simpa using h5)
      have hz6 : Z ≤ w6.heap.size := by have := hb.size; omega
      refine ⟨by have := q46.cell 0; simpa using this, q46.frozen 0, hD7, by have := h6.cell 0; simpa using this, ?_⟩
      refine Below.grown ((q6.trans (hb.mono (by omega))).setCell (p := ⟨Z + 1, 0, none⟩) (by simp only; omega) _) (grownBy_putObj' _ D _) (by simp; omega) (fun k e => by cases e; rw [HS.out] at hD; omega))
    clear q1 q2 q3 q4 q5 q6 q7
    gi_wp2_with (gi_at_call 8; refine (callsIn_wide.2 (lives_any _)).mono ?_; rintro e w6 ⟨rfl, hb6⟩; obtain ⟨z1, z2, z3, z4, z5⟩ := HEND.out w6 hb6; have HD7 := Lib.hid z3; have HC := Lib.hid z4; have HBB := Lib.hid z5; clear z3 z4 z5 hb6 hDf HEND c1 c2 c3)
    refine ⟨by simp, .inl ⟨_, _, rfl, run_takeDeferred HD7.out, ?_⟩⟩
    refine ⟨.bool true, ?_, rfl, HBB.out⟩
    have hc := HC.out
    simp [results, Try.results6, go_sem, hc]
  case stop =>
    rintro D c k V hD hk ⟨⟨⟨⟨⟨⟨q1, q2⟩, q3⟩, q4⟩, q5⟩, q6⟩, rfl⟩ hDf
    have c1 := q1.cell 0
    have c2 := q2.cell 0
    have c3 := q3.cell 0
    simp at c1 c2 c3
    have hDV : D < V.heap.size := (Array.getElem?_eq_some_iff.1 hDf).1
    have hDB : Z + 1 ≠ D := by rw [HS.out] at hD; omega
    have HEND := Lib.hid (show ∀ w6, Below V.heap.size V w6 → w6.cell? ⟨Z + 1, 0, none⟩ = some (.bool false) ∧ w6.frozen? ⟨Z + 1, 0, none⟩ = false ∧ (w6.setCell ⟨Z + 1, 0, none⟩ (.bool true)).heap[D]? = some (.deferred (some [])) ∧
        ((w6.setCell ⟨Z + 1, 0, none⟩ (.bool true)).putObj D (.deferred none)).cell? ⟨Z + 1, 0, none⟩ = some (.bool true) ∧ Below Z w ((w6.setCell ⟨Z + 1, 0, none⟩ (.bool true)).putObj D (.deferred none)) from by
      intro w6 hb
      have q46 := q4.below hb q4.lt
      have hD6 : w6.heap[D]? = some (.deferred (some [])) := (hb.block D hDV).trans hDf
      have hD7 : (w6.setCell ⟨Z + 1, 0, none⟩ (.bool true)).heap[D]? = some (.deferred (some [])) := (Below.heap_setCell _ _ _ D (by simp only; omega)).trans hD6
      have h5 := q46.set_ 0 (.bool true)
      have h6 : Blk ((w6.setCell ⟨Z + 1, 0, none⟩ (.bool true)).putObj D (.deferred none)) (Z + 1) 4 #[.bool true] := (World.putObj_heap_other hDB).trans (show Blk _ _ _ _ by simpa using h5)
      have hz6 : Z ≤ w6.heap.size := by have := hb.size; omega
      refine ⟨by have := q46.cell 0; simpa using this, q46.frozen 0, hD7, by have := h6.cell 0; simpa using this, ?_⟩
      refine Below.grown ((q6.trans (hb.mono (by omega))).setCell (p := ⟨Z + 1, 0, none⟩) (by simp only; omega) _) (grownBy_putObj' _ D _) (by simp; omega) (fun k e => by cases e; rw [HS.out] at hD; omega))
    clear q1 q2 q3 q4 q5 q6
    have hm2' : (m2 : Int) ≤ 65535 := by omega
    gi_wp2_with (gi_at_call 8; refine (callsIn_wide.2 (lives_any _)).mono ?_; rintro e w6 ⟨rfl, hb6⟩; obtain ⟨z1, z2, z3, z4, z5⟩ := HEND.out w6 hb6; have HD7 := Lib.hid z3; have HC := Lib.hid z4; have HBB := Lib.hid z5; clear z3 z4 z5 hb6 hDf HEND c1 c2 c3)
    all_goals
      refine ⟨by simp, .inl ⟨_, _, rfl, run_takeDeferred HD7.out, ?_⟩⟩
      refine ⟨.bool true, ?_, rfl, HBB.out⟩
      have hc := HC.out
      simp [results, Try.results6, go_sem, hc]
end Go.Proofs.Yteoijhmaklocpaa
