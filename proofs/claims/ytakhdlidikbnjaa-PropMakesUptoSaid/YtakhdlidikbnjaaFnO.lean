/- The contract of Table for two variables; layer 6 (prop). -/
import Derived.Test.YtakhdlidikbnjaaAllb
import Derived.Test.YtakhdlidikbnjaaHrd
import Derived.Test.YtakhdlidikbnjaaFnE
import Derived.Test.YtakhdlidikbnjaaFn4
import Derived.Maps.OwnIn
namespace Go.Proofs.Ytakhdlidikbnjaa
open Go.RowKit Go.Shelf
attribute [local go_sem] Oper.semAt_some wide_fn wide_depth

theorem own_keepA {w w' : World} {base e size n : Nat} {v : Value} {xs : List Value} (h : w.ownsRow base e size v n xs) (hb : Below w.heap.size w w') : w'.ownsRow base e size v n xs := by
  obtain ⟨h1, h2⟩ := h
  refine ⟨h1, ?_⟩
  rcases h2 with h2 | ⟨g, cap, cur, e, hg, hh, r⟩
  · exact .inl h2
  · have hlt : g < w.heap.size := by
      rcases Nat.lt_or_ge g w.heap.size with q | q
      · exact q
      · rw [Array.getElem?_eq_none q] at hh; cases hh
    exact .inr ⟨g, cap, cur, e, hg, (hb.block g hlt).trans hh, r⟩
theorem own_lessA {w : World} {b b2 e size n : Nat} {v : Value} {xs : List Value} (h : w.ownsRow b e size v n xs) (hb : b2 ≤ b) : w.ownsRow b2 e size v n xs := by
  obtain ⟨h1, h2⟩ := h
  refine ⟨h1, ?_⟩
  rcases h2 with h2 | ⟨g, cap, cur, e, hg, r⟩
  · exact .inl h2
  · exact .inr ⟨g, cap, cur, e, Nat.le_trans hb hg, r⟩
theorem own_rowA {w : World} {base e size n : Nat} {v : Value} {xs : List Value} (h : w.ownsRow base e size v n xs) (k : Nat) (hk : v.ownBlock = some k) : base ≤ k ∧ ∃ cs, Blk w k e cs := by
  rcases h.2 with ⟨rfl, _⟩ | ⟨g, cap, cur, rfl, hgb, hh, _⟩
  · cases hk
  · simp only [Value.ownBlock, Option.some.injEq] at hk
    subst hk
    exact ⟨hgb, cur, hh⟩
theorem Blk.same_type {w : World} {g t u : Nat} {cs ds : Array Value} (h : Blk w g t cs) (k : Blk w g u ds) : t = u := by
  unfold Blk at h k
  rw [h] at k
  simp at k
  exact k.2
theorem own_grownA {w w1 : World} {b e size n : Nat} {v : Value} {xs : List Value} {row : Option Nat} (h : w.ownsRow b e size v n xs) (hg : w.grownBy w1 row) (hv : ∀ k, v.ownBlock = some k → row ≠ some k) : w1.ownsRow b e size v n xs := by
  obtain ⟨h1, h2⟩ := h
  refine ⟨h1, ?_⟩
  rcases h2 with h2 | ⟨g, cap, cur, rfl, hgb, hh, r⟩
  · exact .inl h2
  · have hlt : g < w.heap.size := by
      rcases Nat.lt_or_ge g w.heap.size with q | q
      · exact q
      · rw [Array.getElem?_eq_none q] at hh; cases hh
    exact .inr ⟨g, cap, cur, rfl, hgb, (hg.block g hlt (hv g rfl).symm).trans hh, r⟩
theorem own_blk {β : Type} (g : Nat) (t : TypeId) (cs : Array Value) : Go.Own (fun (_ : β) W => Blk W g t cs) := fun _ X Y row hs hg hrow =>
  (hg.block g (Blk.lt hs) (fun e => by
    obtain ⟨o, ho, hc⟩ := hrow g e.symm
    unfold Blk at hs
    rw [hs] at ho
    cases ho
    cases hc)).trans hs
theorem own_blkf {β : Type} (g : Nat) (t : TypeId) (f : β → Array Value) : Go.Own (fun (k : β) W => Blk W g t (f k)) := fun k X Y row hs hg hrow =>
  own_blk g t (f k) () X Y row hs hg hrow

theorem grown_blk2 {w w1 : World} {row : Option Nat} {b : Nat} {t : TypeId} {cs : Array Value} (h : Blk w b t cs) (hg : w.grownBy w1 row) (hr : ∀ k, row = some k → k ≠ b) : Blk w1 b t cs :=
  (hg.block b h.lt (fun e => hr b e.symm rfl)).trans h
def tabR (t : Ex) (k : Nat) : Array Value := #[.bool (decide (0 < k) && val (ofL 0 2) t), .bool (decide (1 < k) && val (ofL 1 2) t), .bool (decide (2 < k) && val (ofL 2 2) t), .bool (decide (3 < k) && val (ofL 3 2) t)]
theorem tabR_set (t : Ex) (k : Nat) (hk : k < 4) (q : Bool) (h : val (ofL k 2) t = q) : (tabR t k).setIfInBounds k (.bool q) = tabR t (k + 1) := by
  subst h
  unfold tabR
  rcases (show k = 0 ∨ k = 1 ∨ k = 2 ∨ k = 3 by omega) with rfl | rfl | rfl | rfl <;> simp
/-- What the variable in block B + 1 holds of the table, after k rounds: its row is block B. -/
def TabI (t : Ex) (B : Nat) (k : Nat) (V : World) : Prop := Blk V (B + 1) 42 #[.slice (some ⟨B, 0, none⟩) k 4] ∧ Blk V B 4 (tabR t k)
theorem own_tab (t : Ex) (B : Nat) : Go.Own (fun k V => TabI t B k V) := fun _k X Y row hs hg hrow => 
  ⟨own_blk (B + 1) 42 _ () X Y row hs.1 hg hrow, own_blk B 4 _ () X Y row hs.2 hg hrow⟩
theorem run_mk04 (w : World) : (Instr.makeSlice 42 (.int .i64 0) (.int .i64 4)).run Try.prog w = .ok (.slice (some ⟨w.heap.size, 0, none⟩) 0 4) (w.alloc (.cells #[.bool false, .bool false, .bool false, .bool false] 4)) := by
  obtain ⟨i, hi, hz0, hz1, hz2⟩ := info_parts info4
  have h := run_make (P := Try.prog) w 42 4 i _ Try.underlying42 hi hz0 .i64 .i64 0 4 (by omega) (by omega) (by rw [hz2]; omega) (by omega)
  rw [hz1] at h
  have e : (Value.bool false).cells = #[Value.bool false] := rfl
  rw [e, show (Int.toNat 4 * 1) = 4 from rfl, made_rowB] at h
  exact h
set_option maxRecDepth 100000 in
set_option maxHeartbeats 4000000 in
theorem pr_Table2 (t : Ex) (A : Option Addr) (c : Nat) (w : World) (hs : t.sz ≤ 1000000) (hR : Rep w.heap.size w A t) (hc : chkE t = 0) :
    Calls Try.prog 26 #[exV t A c, .int .i64 2] w fun e w' => ∃ g, e = .returned (.slice (some ⟨g, 0, none⟩) 4 4) ∧ Blk w' g 4 (tabR t 4) ∧ w.heap.size ≤ g ∧ Below w.heap.size w w' := by
  have HB : Hid (∀ ob, Below w.heap.size w (w.alloc ob)) := Lib.hid (fun ob => (Below.refl _ _).alloc (Nat.le_refl _) ob)
  have HC := Lib.hid (fun o1 => pr_Check t A c (w.alloc o1) (by omega) (hR.step (HB.out o1)))
  have HCE := Lib.hid hc
  have HA := Lib.hid (bits_All 2)
  have hmk := run_mk04
  have htb : tabN 2 = 2 := by decide
  rw [htb] at HA
  obtain ⟨Z, hZ⟩ : ∃ Z, w.heap.size = Z := ⟨_, rfl⟩
  clear htb hc
  refine (callsIn_wide (n := 0)).1 ?_
  refine callsIn_of_wp_marks Try.func26 rfl trivial ?_ rfl
  simp only [Try.ntmps26, List.size_toArray, List.length_cons, List.length_nil, Nat.reduceAdd, Nat.reduceSub, Array.replicate_succ, Array.replicate_zero, List.push_toArray, List.append_toArray, List.nil_append, List.cons_append]
  gi_wp2_with (first | (gi_at_call 11; refine (callsIn_wide.2 (HC.out _)).mono ?_; rintro e w1 ⟨rfl, hb1⟩; rw [HCE.out]; have HB1 := Lib.hid hb1; clear hb1) | (gi_at_call 40; refine (callsIn_wide.2 (HA.out _)).mono ?_; rintro e w2 ⟨rfl, hw2⟩; have HW2 := Lib.hid hw2; clear hw2))
  obtain ⟨B1, hB1⟩ : ∃ B1, w1.heap.size = B1 := ⟨_, rfl⟩
  rw [hB1]
  have hZ1 : Z + 1 ≤ B1 := by have := HB1.out.size; simp at this; omega
  have hz2 : w2.heap.size = B1 + 3 := by rw [← HW2.out]; simp; omega
  have hb12 : Below B1 w1 w2 := by
    rw [← HW2.out]
    exact (((Below.refl _ _).alloc (by omega) _).alloc (by simp; omega) _).alloc (by simp; omega) _
  have hbw : Below Z w w2 := by
    have h1 := (HB.out (.cells (exC t A c) 24)).trans (HB1.out.mono (HB.out _).size)
    rw [hZ] at h1
    exact h1.trans (hb12.mono (by omega))
  have b0 : Blk w2 Z 24 (exC t A c) := by
    have h0 := Blk.new w 24 (exC t A c)
    rw [hZ] at h0
    exact (h0.below HB1.out (by simp; omega)).below hb12 (by omega)
  have hsl : w2.heap.size = B1 + 3 := hz2
  have b2 : Blk w2 (B1 + 2) 3 #[.int .i64 ((2 : Nat) : Int)] := by
    rw [← HW2.out]
    have h3 := Blk.new ((w1.alloc (.cells #[.bool false, .bool false, .bool false, .bool false] 4)).alloc (.cells #[.slice (some ⟨w1.heap.size, 0, none⟩) 0 4] 42)) 3 #[.int .i64 ((2 : Nat) : Int)]
    have hz : ((w1.alloc (.cells #[.bool false, .bool false, .bool false, .bool false] 4)).alloc (.cells #[.slice (some ⟨w1.heap.size, 0, none⟩) 0 4] 42)).heap.size = B1 + 2 := by simp; omega
    rw [hz] at h3
    exact h3
  have hT : TabI t B1 0 w2 := by
    refine ⟨?_, ?_⟩
    · rw [← HW2.out]
      have h3 := Blk.new (w1.alloc (.cells #[.bool false, .bool false, .bool false, .bool false] 4)) 42 #[.slice (some ⟨w1.heap.size, 0, none⟩) 0 4]
      have hz : (w1.alloc (.cells #[.bool false, .bool false, .bool false, .bool false] 4)).heap.size = B1 + 1 := by simp; omega
      rw [hz, hB1] at h3
      rw [hB1]
      exact h3.alloc _
    · rw [← HW2.out]
      have h3 := Blk.new w1 4 #[.bool false, .bool false, .bool false, .bool false]
      rw [hB1] at h3
      exact (h3.alloc _).alloc _
  have hR2 : Rep Z w2 A t := by have h := hR.under (hZ ▸ hbw); rw [hZ] at h; exact h
  have hit := iter_all (S := fun b => b = B1 + 2) (K := 2) (by omega) b2 rfl (fun b hb => by omega)
  have HIT := Lib.hid hit
  have HS := Lib.hid hz2
  have hok := ok_chk t 1 0 HCE.out
  have HV := Lib.hid (fun (k : Nat) (W1 : World) (g : Nat) (hb : Below Z w2 W1) (hz : Z ≤ W1.heap.size) (hg : Blk W1 g 4 (boolRow (ofL k 2))) => pr_value t.sz t (Nat.le_refl _) (by omega) hok A c (some ⟨g, 0, none⟩) 2 (ofL k 2) W1 (by rw [ofL_len]; omega) ((hR2.under hb).more hz) (RB.blk hg hg.lt))
  have HI0 := Lib.hid (show ∀ B, Below w2.heap.size w2 B → ((TabI t B1 0 B ∧ Blk B Z 24 (exC t A c)) ∧ Below Z w2 B) ∧ Below Z w B from fun B hb => ⟨⟨⟨⟨hT.1.below hb hT.1.lt, hT.2.below hb hT.2.lt⟩, b0.below hb b0.lt⟩, hb.mono (by omega)⟩, hbw.trans (hb.mono (by omega))⟩)
  clear b0 b2 hT hbw hb12 hit HW2 HB1 hR2 hok hR HC HA hB1 hsl hmk
  refine wp_range (gf := 52) (lb := #[.pointer (some ⟨B1 + 1 + 1, 0, none⟩)]) rfl (enters_of Try.func52 (by kernel_rfl) rfl) HIT.out (Below.refl _ _) (fun b hb => by have := HS.out; omega) (fun k x V hx => by obtain ⟨g, rfl, _⟩ := hx; rfl)
    (fun k V => ((TabI t B1 k V ∧ Blk V Z 24 (exC t A c)) ∧ Below Z w2 V) ∧ Below Z w V)
    (fun _ _ _ => False)
    ?hI ?hIx HI0.out
    (fun k a' V => ∃ g, Blk V g 4 (boolRow (ofL k 2)) ∧ a' = { tmps := #[exV t A c, .int .i64 2, .pointer (some ⟨Z, 0, none⟩), undef, .slice none 0 0, .pointer (some ⟨B1 + 1, 0, none⟩), .slice (some ⟨g, 0, none⟩) 2 2, .int .i64 2, .bool false, .bool false, .int .i64 2, .bool false, .bool false, .bool false, .agg #[.int .i64 t.op, .int .i64 t.vr, .slice A t.ks.length c], .int .i64 0, .bool false, .bool false, .int .i64 2, .int .i64 4, .slice (some ⟨B1, 0, none⟩) 0 4, .int .i64 2, .func (.func 52) #[] #[.pointer (some ⟨B1 + 1 + 1, 0, none⟩)], .slice (some ⟨g, 0, none⟩) 2 2, undef, undef, undef, undef, undef, undef, undef], defers := [] })
    ?hAx ?assign ?body ?done ?stop
  case hI =>
    rw [HS.out]
    exact OwnFrom.and (OwnFrom.and (OwnFrom.and (Go.Own.from (own_tab t B1) _) (Go.Own.from (own_blk _ _ _) _)) (ownFrom_below (by omega) (by omega))) (ownFrom_below (by omega) (by omega))
  case hIx =>
    intro c
    exact ownFrom_pure _ _
  case hAx =>
    rintro k a' _ X Y row ⟨g, h1, h2⟩ hg hr
    exact ⟨g, own_blk g 4 _ () X Y row h1 hg (fun r e => (hr r e).2), h2⟩
  case assign =>
    rintro l k x V K' hk ⟨g, rfl, hg⟩ hi hz hK'
    have HK := Lib.hid (hK' _ V (KeepsP.refl _ _ _) (Kept.refl _ _) hi ⟨g, hg, rfl⟩)
    clear hK' hi hg
    gi_wp2
    exact HK.out
  case body =>
    rintro l k a' V hk ⟨⟨⟨hT, hbx⟩, hb2⟩, hbw⟩ ⟨g, hg, rfl⟩ hz
    have hk4 : k < 4 := hk
    have hsw := HS.out
    have hvz := hb2.size
    obtain ⟨h1, h2⟩ := hT
    have hCV := HV.out k V.drew g hb2.drew (by simp; omega) hg
    have hmx : Try.prog.follows .mixedOrders = true := by kernel_rfl
    have e1 : V.cell? ⟨B1 + 1, 0, none⟩ = some (.slice (some ⟨B1, 0, none⟩) k 4) := h1.cell 0
    have y0 : V.cell? ⟨Z, 0, none⟩ = some (.int .i64 t.op) := hbx.cell 0
    have y1 : V.cell? ⟨Z, 1, none⟩ = some (.int .i64 t.vr) := hbx.cell 1
    have y2 : V.cell? ⟨Z, 2, none⟩ = some (.slice A t.ks.length c) := hbx.cell 2
    have r0 : V.cell? ⟨B1, k, none⟩ = some (.bool false) := by
      rw [h2.cell k]
      unfold tabR
      rcases (show k = 0 ∨ k = 1 ∨ k = 2 ∨ k = 3 by omega) with rfl | rfl | rfl | rfl <;> rfl
    have f0 := h1.frozen 0
    have f1 := h2.frozen k
    have l1 := h1.lt
    have l2 := h2.lt
    have l3 := hbx.lt
    have H1 := Lib.hid h1
    have H2 := Lib.hid h2
    have HBX := Lib.hid hbx
    have HB2 := Lib.hid hb2
    have HBW := Lib.hid hbw
    rw [ofL_len] at hCV
    have HCALL := Lib.hid hCV
    have HNX : Hid (∀ w3, Below V.drew.heap.size V.drew w3 → (w3.cell? ⟨B1 + 1, 0, none⟩ = some (.slice (some ⟨B1, 0, none⟩) k 4) ∧ w3.frozen? ⟨B1 + 1, 0, none⟩ = false ∧ w3.cell? ⟨B1, k, none⟩ = some (.bool false) ∧ w3.frozen? ⟨B1, k, none⟩ = false) ∧ B1 + 1 < w3.heap.size) := Lib.hid (fun w3 hb => by
      have q1 := h1.below (w' := V.drew) (B := V.heap.size) (Below.refl _ _).drew h1.lt
      have q2 := h2.below (w' := V.drew) (B := V.heap.size) (Below.refl _ _).drew h2.lt
      have q3 := q1.below hb q1.lt
      have q4 := q2.below hb q2.lt
      refine ⟨⟨q3.cell 0, q3.frozen 0, ?_, q4.frozen k⟩, q3.lt⟩
      rw [q4.cell k]
      unfold tabR
      rcases (show k = 0 ∨ k = 1 ∨ k = 2 ∨ k = 3 by omega) with rfl | rfl | rfl | rfl <;> rfl)
    have HNY : Hid (∀ w3, Below V.drew.heap.size V.drew w3 → w3.cell? ⟨Z, 0, none⟩ = some (.int .i64 t.op) ∧ w3.cell? ⟨Z, 1, none⟩ = some (.int .i64 t.vr) ∧ w3.cell? ⟨Z, 2, none⟩ = some (.slice A t.ks.length c)) := Lib.hid (fun w3 hb => by
      have q4 := (hbx.below (w' := V.drew) (B := V.heap.size) (Below.refl _ _).drew hbx.lt).below hb l3
      exact ⟨q4.cell 0, q4.cell 1, q4.cell 2⟩)
    have hb2l : Z ≤ V.heap.size := by omega
    clear h1 h2 hbx hb2 hbw hg hk hCV
    generalize hq : val (ofL k 2) t = q at *
    have HQ := Lib.hid hq
    clear hq
    have h63 : (k : Int) + 1 ≤ 4 := by omega
    have h64 : k + 1 ≤ 4 := by omega
    gi_wp2_with fail
    refine region_K_round (S := fun wx => (wx.cell? ⟨B1 + 1, 0, none⟩ = some (.slice (some ⟨B1, 0, none⟩) k 4)) ∧ wx.cell? ⟨Z, 0, none⟩ = some (.int .i64 t.op) ∧ wx.cell? ⟨Z, 1, none⟩ = some (.int .i64 t.vr) ∧ wx.cell? ⟨Z, 2, none⟩ = some (.slice A t.ks.length c)) 7 rfl hmx (by kernel_rfl) (fun _ _ h => h.elim) ⟨e1, y0, y1, y2⟩ (fun hHeld => ?_)
    refine K.take 0 6 24 (.slice (some ⟨B1, 0, none⟩) k 4) rfl rfl rfl (by kernel_rfl) (by kernel_rfl) (by kernel_rfl) (by kernel_rfl) (fun _ _ _ h => h) (by rfl) (fun wx hw => ?_) hHeld ?_
    · obtain ⟨z0, z1, z2, z3⟩ := hw
      go_simp
    simp only [List.set_cons_zero, List.set_cons_succ]
    refine K.take 1 6 25 (.agg #[.int .i64 t.op, .int .i64 t.vr, .slice A t.ks.length c]) rfl rfl rfl (by kernel_rfl) (by kernel_rfl) (by kernel_rfl) (by kernel_rfl) (fun _ _ _ h => h) (by rfl) (fun wx hw => ?_) hHeld ?_
    · obtain ⟨z0, z1, z2, z3⟩ := hw
      go_simp
    simp only [List.set_cons_zero, List.set_cons_succ]
    refine K.take 2 6 26 (.slice (some ⟨g, 0, none⟩) 2 2) rfl rfl rfl (by kernel_rfl) (by kernel_rfl) (by kernel_rfl) (by kernel_rfl) (fun _ _ _ h => h) (by rfl) (fun wx hw => ?_) hHeld ?_
    · obtain ⟨z0, z1, z2, z3⟩ := hw
      go_simp
    simp only [List.set_cons_zero, List.set_cons_succ]
    have HFIN : Hid (∀ w3, Below V.drew.heap.size V.drew w3 → (∀ W', W' = ((w3.alloc (.cells #[.bool q] 4)).setCells B1 (0 + k * 1) [.bool q]).setCell ⟨B1 + 1, 0, none⟩ (.slice (some ⟨B1, 0, none⟩) (k + 1) 4) → KeepsP PtA w2.heap.size V W' ∧ Kept (fun b => b = B1 + 2) V W' ∧ (((TabI t B1 (k + 1) W' ∧ Blk W' Z 24 (exC t A c)) ∧ Below Z w2 W') ∧ Below Z w W'))) := Lib.hid (by
      rintro w3 hb3 W' rfl
      have hb3' : Below V.heap.size V w3 := ((Below.refl _ _).drew).trans hb3
      have hba : Below V.heap.size V (w3.alloc (.cells #[.bool q] 4)) := hb3'.trans (((Below.refl _ _).alloc (Nat.le_refl _) _).mono hb3'.size)
      have q1 := H1.out.below hba H1.out.lt
      have q2 := H2.out.below hba H2.out.lt
      have q3 := HBX.out.below hba HBX.out.lt
      simp only [World.setCells, Nat.zero_add, Nat.mul_one]
      refine ⟨?_, ?_, ⟨⟨⟨?_, ?_⟩, ?_⟩, ?_⟩, ?_⟩
      · exact (KeepsP.below hba).trans ((KeepsP.set _ _ _ _ (.inl (by omega))).trans (KeepsP.set _ _ _ _ (.inl (by omega))))
      · rintro b rfl
        refine ((Kept.set (S := fun b => b = B1 + 2) (by show ¬ (B1 + 1 = B1 + 2); omega) _) _ rfl).trans (((Kept.set (S := fun b => b = B1 + 2) (by show ¬ (B1 = B1 + 2); omega) _) _ rfl).trans ((Kept.below (S := fun b => b = B1 + 2) hba (fun b hb => ?_)) _ rfl))
        omega
      · exact (q1.set_other (by omega) _ _).set_ 0 _
      · have h5 := (q2.set_ k (.bool q)).set_other (b := B1 + 1) (by omega) 0 (.slice (some ⟨B1, 0, none⟩) (k + 1) 4)
        rw [tabR_set t k hk4 q HQ.out] at h5
        exact h5
      · exact ((q3.set_other (by omega) _ _).set_other (by omega) _ _)
      · exact ((HB2.out.trans (hba.mono hb2l)).setCell (by simp; omega) _).setCell (by simp; omega) _
      · exact ((HBW.out.trans (hba.mono hb2l)).setCell (by simp; omega) _).setCell (by simp; omega) _)
    have HMID : Hid (∀ w3, Below V.drew.heap.size V.drew w3 → ((w3.alloc (.cells #[.bool q] 4)).cell? ⟨B1 + 1, 0, none⟩ = some (.slice (some ⟨B1, 0, none⟩) k 4) ∧ (w3.alloc (.cells #[.bool q] 4)).cell? ⟨Z, 0, none⟩ = some (.int .i64 t.op) ∧ (w3.alloc (.cells #[.bool q] 4)).cell? ⟨Z, 1, none⟩ = some (.int .i64 t.vr) ∧ (w3.alloc (.cells #[.bool q] 4)).cell? ⟨Z, 2, none⟩ = some (.slice A t.ks.length c)) ∧
        ((((w3.alloc (.cells #[.bool q] 4)).cell? ⟨B1, 0 + k * 1 + 0, none⟩).isSome = true ∧ (w3.alloc (.cells #[.bool q] 4)).frozen? ⟨B1, 0 + k * 1 + 0, none⟩ = false) ∧ (w3.alloc (.cells #[.bool q] 4)).cell? ⟨w3.heap.size, 0, none⟩ = some (.bool q)) ∧
        (((w3.alloc (.cells #[.bool q] 4)).setCells B1 (0 + k * 1) [.bool q]).cell? ⟨B1 + 1, 0, none⟩ = some (.slice (some ⟨B1, 0, none⟩) k 4) ∧ ((w3.alloc (.cells #[.bool q] 4)).setCells B1 (0 + k * 1) [.bool q]).cell? ⟨Z, 0, none⟩ = some (.int .i64 t.op) ∧ ((w3.alloc (.cells #[.bool q] 4)).setCells B1 (0 + k * 1) [.bool q]).cell? ⟨Z, 1, none⟩ = some (.int .i64 t.vr) ∧ ((w3.alloc (.cells #[.bool q] 4)).setCells B1 (0 + k * 1) [.bool q]).cell? ⟨Z, 2, none⟩ = some (.slice A t.ks.length c)) ∧
        ((w3.alloc (.cells #[.bool q] 4)).setCells B1 (0 + k * 1) [.bool q]).frozen? ⟨B1 + 1, 0, none⟩ = false) := Lib.hid (by
      intro w3 hb3
      have hb3' : Below V.heap.size V w3 := ((Below.refl _ _).drew).trans hb3
      have hba : Below V.heap.size V (w3.alloc (.cells #[.bool q] 4)) := hb3'.trans (((Below.refl _ _).alloc (Nat.le_refl _) _).mono hb3'.size)
      have q1 := H1.out.below hba H1.out.lt
      have q2 := H2.out.below hba H2.out.lt
      have q3 := HBX.out.below hba HBX.out.lt
      have q4 := Blk.new w3 4 #[.bool q]
      simp only [World.setCells, Nat.zero_add, Nat.mul_one, Nat.add_zero]
      have p1 := q1.set_other (b := B1) (by omega) k (.bool q)
      have p3 := q3.set_other (b := B1) (by omega) k (.bool q)
      refine ⟨⟨q1.cell 0, q3.cell 0, q3.cell 1, q3.cell 2⟩, ⟨⟨?_, q2.frozen k⟩, q4.cell 0⟩, ⟨p1.cell 0, p3.cell 0, p3.cell 1, p3.cell 2⟩, p1.frozen 0⟩
      rw [q2.cell k]
      unfold tabR
      rcases (show k = 0 ∨ k = 1 ∨ k = 2 ∨ k = 3 by omega) with rfl | rfl | rfl | rfl <;> rfl)
    refine K.step 3 rfl (by kernel_rfl) (fun K hK => ?_)
    go_simp
    refine (HCALL.out).mono ?_
    rintro e w3 ⟨rfl, hb3⟩
    obtain ⟨⟨e31, f31, e32, f32⟩, l31⟩ := HNX.out w3 hb3
    obtain ⟨y30, y31, y32⟩ := HNY.out w3 hb3
    obtain ⟨m1, ⟨m2, m3⟩, m4, m5⟩ := HMID.out w3 hb3
    have HB3 := Lib.hid hb3
    clear hb3
    refine hK.out _ _ ⟨e31, y30, y31, y32⟩ ?_
    clear hK K
    refine K.step 4 rfl (by kernel_rfl) (fun K hK => ?_)
    have M1 := Lib.hid m1
    have M2 := Lib.hid m2
    have M3 := Lib.hid m3
    have M4 := Lib.hid m4
    clear m1 m2 m3 m4
    go_simp
    refine hK.out _ _ M1.out ?_
    clear hK K
    refine K.step 5 rfl (by kernel_rfl) (fun K hK => ?_)
    obtain ⟨i4, hi4, hz40, hz41, hz42⟩ := info_parts info4
    refine step_append_room rfl (.tmp 24) (.tmp 28) 42 rfl 4 i4 1 Try.underlying42 hi4 hz41 B1 0 k 4 rfl ⟨w3.heap.size, 0, none⟩ 1 1 [.bool q] rfl rfl (fun j u hj => ?_) (by simp [Value.oneCell']) (by omega) (fun j hj => ?_) ?_
    · obtain ⟨rfl, rfl⟩ : j = 0 ∧ u = .bool q := by rcases j with _ | j <;> simp at hj; exact ⟨rfl, hj.symm⟩
      exact M3.out
    · obtain rfl : j = 0 := by simpa using hj
      exact M2.out
    refine hK.out _ _ M4.out ?_
    clear hK K hi4 hz40 hz41 hz42
    have HF := Lib.hid (HFIN.out w3 HB3.out _ rfl)
    have g1 := M4.out.1
    generalize (w3.alloc (.cells #[.bool q] 4)).setCells B1 (0 + k * 1) [.bool q] = w5 at *
    refine K.last 6 rfl (by kernel_rfl) (by kernel_rfl) (by kernel_rfl) (fun K hK => ?_)
    go_simp
    refine hK.out _ _ ?_
    clear hK K
    clear HFIN HMID HNX HNY HCALL e31 e32 f31 f32 y30 y31 y32 g1 m5 e1 y0 y1 y2 r0 f0 f1
    gi_wp2
    exact HF.out
  case done =>
    rintro D V hD ⟨⟨⟨hT, hbx⟩, hb2⟩, hbw⟩ hDf
    obtain ⟨h1, h2⟩ := hT
    have HX : Hid (Blk (V.putObj D (.deferred none)) B1 4 (tabR t 4) ∧ Below Z w (V.putObj D (.deferred none))) := Lib.hid (by
      have := HS.out
      refine ⟨(World.putObj_heap_other (by omega)).trans h2, ?_⟩
      exact hbw.trans ((Below.refl Z V).grown (grownBy_putObj' V D (.deferred none)) (by have := hb2.size; omega) (fun k e => by cases e; omega)))
    have e1 : V.cell? ⟨B1 + 1, 0, none⟩ = some (.slice (some ⟨B1, 0, none⟩) 4 4) := h1.cell 0
    clear h1 h2 hbx hb2 hbw
    gi_wp2
    refine ⟨by simp, .inl ⟨_, _, rfl, run_takeDeferred hDf, ?_⟩⟩
    refine ⟨_, (by simp [results, Try.results26, go_sem]), B1, rfl, HX.out.1, by rw [hZ]; omega, by rw [hZ]; exact HX.out.2⟩
  case stop =>
    rintro D c k V hD hk h hDf
    exact h.elim
end Go.Proofs.Ytakhdlidikbnjaa
