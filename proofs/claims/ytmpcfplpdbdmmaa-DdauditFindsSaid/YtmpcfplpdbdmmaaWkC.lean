/- DdauditBroken: the walk. -/
import Derived.Test.YtmpcfplpdbdmmaaWkB
namespace Go.Proofs.Ytmpcfplpdbdmmaa
open Go.RowKit Go.Maps

set_option maxRecDepth 100000 in
set_option maxHeartbeats 4000000 in
theorem broken_bad (A : Option Addr) (ca n : Nat) (C : Option Addr) (cc m : Nat) (at_ : Int) (w : World) (hb : m = 0 ∨ 30 < m ∨ at_ < 0 ∨ (m : Int) ≤ at_) :
    Calls Try.prog 5 #[.slice A n ca, .slice C m cc, .int .i64 at_] w fun e w' => e = .returned (.bool true) ∧ Below w.heap.size w w' := by
  have HL := Lib.hid (lives_any w)
  by_cases h0 : m = 0
  · subst h0
    go_enter Try.func5, Try.ntmps5
    go_wp2_with (go_at_call 6; refine HL.out.mono ?_; rintro e w1 ⟨rfl, b1⟩; have HB := Lib.hid b1; clear b1)
    go_ret
    exact ⟨rfl, HB.out⟩
  have g0 : ((m : Int) == 0) = false := by simp; omega
  by_cases h1 : 30 < m
  · have g1 : (30 : Int) < (m : Int) := by omega
    clear hb
    go_enter Try.func5, Try.ntmps5
    go_wp2_with (go_at_call 6; refine HL.out.mono ?_; rintro e w1 ⟨rfl, b1⟩; have HB := Lib.hid b1; clear b1)
    go_ret
    exact ⟨rfl, HB.out⟩
  have g1 : ¬ (30 : Int) < (m : Int) := by omega
  by_cases h2 : at_ < 0
  · clear hb
    go_enter Try.func5, Try.ntmps5
    go_wp2_with (go_at_call 6; refine HL.out.mono ?_; rintro e w1 ⟨rfl, b1⟩; have HB := Lib.hid b1; clear b1)
    go_ret
    exact ⟨rfl, HB.out⟩
  have g3 : (m : Int) ≤ at_ := by omega
  clear hb
  go_enter Try.func5, Try.ntmps5
  go_wp2_with (go_at_call 6; refine HL.out.mono ?_; rintro e w1 ⟨rfl, b1⟩; have HB := Lib.hid b1; clear b1)
  go_ret
  exact ⟨rfl, HB.out⟩
/-- The slice at A holds the findings L. -/
def FdIn (w : World) (A : Option Addr) (L : List Fd) : Prop := ∀ (i : Nat) (x : Fd), L[i]? = some x → ∃ g, A = some ⟨g, 0, none⟩ ∧ g < w.heap.size ∧ w.cell? ⟨g, i * 2, none⟩ = some (.int .i64 x.k) ∧ w.cell? ⟨g, i * 2 + 1, none⟩ = some (.int .i64 x.id)
theorem FdIn.below {w w' : World} {A : Option Addr} {L : List Fd} (h : FdIn w A L) (hb : Below w.heap.size w w') : FdIn w' A L := fun i x hi => by
  obtain ⟨g, e, hg, h1, h2⟩ := h i x hi
  exact ⟨g, e, Nat.lt_of_lt_of_le hg hb.size, (hb.cell (p := ⟨g, i * 2, none⟩) hg).trans h1, (hb.cell (p := ⟨g, i * 2 + 1, none⟩) hg).trans h2⟩
theorem below_drewM {B : Nat} {a w : World} (h : Below B a w) (n : Nat) : Below B a (w.drewN n) := ⟨h.os, h.tape, h.output, h.size, h.block⟩
theorem new_row (W : World) (x : Nd) : ∀ j u, (ndL x)[j]? = some u → (W.alloc (.cells #[.int .i64 x.id, .int .i64 x.v, .int .i64 x.lo, .int .i64 x.hi, .int .i64 x.refs] 39)).cell? ⟨W.heap.size, 0 + j, none⟩ = some u := fun j u hj => by
  have q : Blk (W.alloc (.cells #[.int .i64 x.id, .int .i64 x.v, .int .i64 x.lo, .int .i64 x.hi, .int .i64 x.refs] 39)) W.heap.size 39 (ndR x) := Blk.new W 39 (ndR x)
  rw [Nat.zero_add, q.cell, ← Array.getElem?_toList]; exact hj
set_option maxRecDepth 100000 in
set_option maxHeartbeats 8000000 in
theorem broken_good (A : Option Addr) (ca : Nat) (order : List Int) (b f cc : Nat) (l : List Nd) (a : Nat) (w : World) (hA : RowI w.heap.size w A order) (hO : OkI order) (hC : RowN w.heap.size w (some ⟨b, f, none⟩) l) (hN : OkN l) (hl1 : order.length ≤ 9223372036854775807) (hl2 : l.length ≤ 30) (ha : a < l.length) :
    Calls Try.prog 5 #[.slice A order.length ca, .slice (some ⟨b, f, none⟩) l.length cc, .int .i64 (a : Int)] w fun e w' => e = .returned (.bool true) ∧ Below w.heap.size w w' := by
  obtain ⟨n, hn⟩ : ∃ n, l.length = n := ⟨_, rfl⟩
  rw [hn]
  have HA := Lib.hid hA
  have HO := Lib.hid hO
  have HN := Lib.hid hN
  have HL1 := Lib.hid hl1
  have HLN := Lib.hid hn
  obtain ⟨b', f', e', hbl, hc⟩ := hC (by omega)
  injection e' with e'; injection e' with e1 e2; subst e1; subst e2
  have HCells := Lib.hid (cells_of_row hc)
  have HCs := Lib.hid hc
  obtain ⟨d0, d1, d2, d3, d4⟩ := hc a ha
  have HX := Lib.hid (hN a ha)
  have HTw := Lib.hid (twice_mem order l a ha)
  rw [hn] at HTw
  have HM : Hid (OkN (l ++ [na l a])) := Lib.hid (fun k hk => by
    rw [List.length_append] at hk
    by_cases e : k < l.length
    · have : na (l ++ [na l a]) k = na l k := by unfold na; simp only [List.getD]; rw [List.getElem?_append_left e]
      rw [this]; exact hN k e
    · have : k = l.length := by simp at hk; omega
      rw [this, na_app]; exact hN a ha)
  have g0 : ((n : Int) == 0) = false := by simp; omega
  have g1 : ¬ (30 : Int) < (n : Int) := by omega
  have g2 : ¬ (a : Int) < 0 := by omega
  have g3 : ¬ (n : Int) ≤ (a : Int) := by omega
  have g4 : (a : Int) < (n : Int) := by omega
  have g5 : (0 : Int) ≤ (a : Int) := by omega
  have HLe : Hid (1 ≤ n ∧ n ≤ 30) := Lib.hid (by omega)
  generalize hx : na l a = x at *
  clear hA hO hN hl1 hC hc hn hx hl2
  obtain ⟨i8, hi8, hx0, hx1, hx2⟩ := info_parts info39
  have HD : Hid (∀ wx, Below w.heap.size w wx → wx.cell? ⟨b, f + a * 5, none⟩ = some (.int .i64 x.id) ∧ wx.cell? ⟨b, f + a * 5 + 1, none⟩ = some (.int .i64 x.v) ∧ wx.cell? ⟨b, f + a * 5 + 2, none⟩ = some (.int .i64 x.lo) ∧ wx.cell? ⟨b, f + a * 5 + 3, none⟩ = some (.int .i64 x.hi) ∧ wx.cell? ⟨b, f + a * 5 + 4, none⟩ = some (.int .i64 x.refs)) :=
    Lib.hid (fun wx hb => ⟨(hb.cell (p := ⟨b, _, none⟩) hbl).trans d0, (hb.cell (p := ⟨b, _, none⟩) hbl).trans d1, (hb.cell (p := ⟨b, _, none⟩) hbl).trans d2, (hb.cell (p := ⟨b, _, none⟩) hbl).trans d3, (hb.cell (p := ⟨b, _, none⟩) hbl).trans d4⟩)
  have HR : Hid (∀ wx, Below w.heap.size w wx → ∀ j u, (ndC l)[j]? = some u → wx.cell? ⟨b, f + j, none⟩ = some u) := Lib.hid (fun wx hb j u hj => (hb.cell (p := ⟨b, _, none⟩) hbl).trans (HCells.out j u hj))
  have ownE : ∀ W : World, (W.alloc (.cells #[] 39)).ownsRow W.heap.size 39 5 (.slice (some ⟨W.heap.size, 0, none⟩) 0 0) 0 [] := fun W => ⟨rfl, .inr ⟨W.heap.size, 0, #[], rfl, Nat.le_refl _, heap_alloc_new W _, Nat.le_refl _, Nat.zero_le _, rfl, rfl⟩⟩
  have bal : ∀ (W : World) (o : Obj), Below W.heap.size W (W.alloc o) := fun W o => (Below.refl _ _).alloc (Nat.le_refl _) o
  have W0 : ∀ wx, Below w.heap.size w.drew wx → Below w.heap.size w wx := fun wx h => (Below.refl _ _).drew.trans h
  have HE1 : Hid ((w.drew.alloc (.cells #[] 39)).ownsRow w.heap.size 39 5 (.slice (some ⟨w.heap.size, 0, none⟩) 0 0) 0 []) := Lib.hid (ownE w.drew)
  have HB1 : Hid (Below w.heap.size w (w.drew.alloc (.cells #[] 39))) := Lib.hid (W0 _ (bal w.drew _))
  have HE2 : Hid (((w.drew.alloc (.cells #[] 39)).alloc (.cells #[.int .i64 x.id, .int .i64 x.v, .int .i64 x.lo, .int .i64 x.hi, .int .i64 x.refs] 39)).ownsRow w.heap.size 39 5 (.slice (some ⟨w.heap.size, 0, none⟩) 0 0) 0 []) := Lib.hid (own_keep (ownE w.drew) (fun b _ hlt => (bal _ _).block b hlt))
  have HB2 : Hid (Below w.heap.size w ((w.drew.alloc (.cells #[] 39)).alloc (.cells #[.int .i64 x.id, .int .i64 x.v, .int .i64 x.lo, .int .i64 x.hi, .int .i64 x.refs] 39))) := Lib.hid ((W0 _ (bal w.drew _)).alloc (by simp) _)
  have HX2 : Hid (Blk ((w.drew.alloc (.cells #[] 39)).alloc (.cells #[.int .i64 x.id, .int .i64 x.v, .int .i64 x.lo, .int .i64 x.hi, .int .i64 x.refs] 39)) (w.heap.size + 1) 39 (ndR x)) := Lib.hid (by have := Blk.new (w.drew.alloc (.cells #[] 39)) 39 (ndR x); rw [World.size_alloc] at this; exact this)
  have HE3 : Hid (((w.drew.alloc (.cells #[.int .i64 x.id, .int .i64 x.v, .int .i64 x.lo, .int .i64 x.hi, .int .i64 x.refs] 39)).alloc (.cells #[] 39)).ownsRow w.heap.size 39 5 (.slice (some ⟨w.heap.size + 1, 0, none⟩) 0 0) 0 []) := Lib.hid (by
    have h3 := ownE (w.drew.alloc (.cells #[.int .i64 x.id, .int .i64 x.v, .int .i64 x.lo, .int .i64 x.hi, .int .i64 x.refs] 39))
    rw [World.size_alloc] at h3
    obtain ⟨q1, q2⟩ := h3
    refine ⟨q1, ?_⟩
    rcases q2 with q2 | ⟨g, cap, cur, e1, e2, e3⟩
    · exact .inl q2
    · exact .inr ⟨g, cap, cur, e1, Nat.le_of_succ_le e2, e3⟩)
  have HB3 : Hid (Below w.heap.size w ((w.drew.alloc (.cells #[.int .i64 x.id, .int .i64 x.v, .int .i64 x.lo, .int .i64 x.hi, .int .i64 x.refs] 39)).alloc (.cells #[] 39))) := Lib.hid ((W0 _ (bal w.drew _)).alloc (by simp) _)
  have HX3 : Hid (Blk ((w.drew.alloc (.cells #[.int .i64 x.id, .int .i64 x.v, .int .i64 x.lo, .int .i64 x.hi, .int .i64 x.refs] 39)).alloc (.cells #[] 39)) w.heap.size 39 (ndR x)) := Lib.hid ((Blk.new w.drew 39 (ndR x)).below (bal _ _) (by simp))
  have HFit : Hid (∀ m, m ≤ 31 → 0 + m ≤ maxLen ∧ (0 + m) * 40 ≤ 140737488355328 ∧ m + 1 ≤ maxLen ∧ (m + 1) * 40 ≤ 140737488355328) := Lib.hid (fun m hm => by unfold maxLen; omega)
  have HLc : Hid ((ndC l).length = n * 5) := Lib.hid (by rw [ndC_len, HLN.out])
  have HLo := Lib.hid (ndC_one l)
  have HAp : Hid (∀ (W : World) v, W.ownsRow w.heap.size 39 5 v (n + 1) (ndC l ++ ndL x) → ∃ g c, v = .slice (some ⟨g, 0, none⟩) (n + 1) c ∧ RowN W.heap.size W (some ⟨g, 0, none⟩) (l ++ [x])) := Lib.hid (fun W v h => by
    have h2 : W.ownsRow w.heap.size 39 5 v (n + 1) (ndC (l ++ [x])) := by unfold ndC at *; rw [List.flatMap_append]; simpa using h
    obtain ⟨g, c, e, _, _, hr⟩ := row_of_own (by rw [List.length_append, HLN.out]; rfl) (by omega) h2
    exact ⟨g, c, e, hr⟩)
  clear ownE W0 HCells HCs
  go_enter Try.func5, Try.ntmps5
  go_upto_region 3 with (fail)
  go_cut [7] from 17 to 99 (fun s7 wx => ∃ g c, s7 = .slice (some ⟨g, 0, none⟩) (n + 1) c ∧ RowN wx.heap.size wx (some ⟨g, 0, none⟩) (l ++ [x]) ∧ Below w.heap.size w wx)
  case first =>
    go_region_law (first
      | (refine step_app_nd rfl (.tmp 38) (.tmp 43) 23 rfl w.heap.size 39 i8 _ 5 40 Try.underlying23 hi8 hx0 hx1 hx2 rfl (by decide) _ v8 n (ndC l) rfl HO8.out _ 0 1 1 (ndL x) rfl HXR.out rfl (by simp [ndL, ndR, Value.oneCell']) (HFit.out n (by have := HLe.out; omega)).2.2.1 (HFit.out n (by have := HLe.out; omega)).2.2.2 HSz.out ?_; intro v9 w9 hO9 hg9; have HB9 := Lib.hid (HB8.out.trans (own_belowR HO8.out HSz.out hg9)); have HR9 := Lib.hid (HAp.out _ _ hO9); clear hO9 hg9)
      | (refine step_app_nd rfl (.tmp 38) (.tmp 43) 23 rfl w.heap.size 39 i8 _ 5 40 Try.underlying23 hi8 hx0 hx1 hx2 rfl (by decide) _ v8 n (ndC l) rfl (own_keep HO8.out (fun b _ hlt => (bal _ _).block b hlt)) w8.heap.size 0 1 1 (ndL x) rfl HXN.out rfl (by simp [ndL, ndR, Value.oneCell']) (HFit.out n (by have := HLe.out; omega)).2.2.1 (HFit.out n (by have := HLe.out; omega)).2.2.2 HSn.out ?_; intro v9 w9 hO9 hg9; have HB9 := Lib.hid ((HB8.out.alloc HSz.out _).trans (own_belowR (own_keep HO8.out (fun b _ hlt => (bal _ _).block b hlt)) HSn.out hg9)); have HR9 := Lib.hid (HAp.out _ _ hO9); clear hO9 hg9)
      | (refine step_app_nd rfl (.tmp 36) (.tmp 37) 23 rfl w.heap.size 39 i8 _ 5 40 Try.underlying23 hi8 hx0 hx1 hx2 rfl (by decide) _ (.slice (some ⟨w.heap.size, 0, none⟩) 0 0) 0 [] rfl HE1.out b f n cc (ndC l) rfl (HR.out _ HB1.out) HLc.out HLo.out (HFit.out n (by have := HLe.out; omega)).1 (HFit.out n (by have := HLe.out; omega)).2.1 (by simp) ?_; intro v8 w8 hO8 hg8; have HB8 := Lib.hid (HB1.out.trans (own_belowR HE1.out (by simp) hg8)); rw [Nat.zero_add, List.nil_append] at hO8; have HO8 := Lib.hid hO8; obtain ⟨y0, y1, y2, y3, y4⟩ := HD.out _ HB8.out; have yl : b < w8.heap.size := Nat.lt_of_lt_of_le hbl HB8.out.size; have HSz : Hid (w.heap.size ≤ w8.heap.size) := Lib.hid HB8.out.size; have HSn : Hid (w.heap.size ≤ (w8.alloc (.cells #[.int .i64 x.id, .int .i64 x.v, .int .i64 x.lo, .int .i64 x.hi, .int .i64 x.refs] 39)).heap.size) := Lib.hid (Nat.le_trans HB8.out.size (bal _ _).size); have HXN : Hid (∀ j u, (ndL x)[j]? = some u → (w8.alloc (.cells #[.int .i64 x.id, .int .i64 x.v, .int .i64 x.lo, .int .i64 x.hi, .int .i64 x.refs] 39)).cell? ⟨w8.heap.size, 0 + j, none⟩ = some u) := Lib.hid (new_row w8 x); clear hO8 hg8)
      | (refine step_app_nd rfl (.tmp 36) (.tmp 37) 23 rfl w.heap.size 39 i8 _ 5 40 Try.underlying23 hi8 hx0 hx1 hx2 rfl (by decide) _ (.slice (some ⟨w.heap.size, 0, none⟩) 0 0) 0 [] rfl HE2.out b f n cc (ndC l) rfl (HR.out _ HB2.out) HLc.out HLo.out (HFit.out n (by have := HLe.out; omega)).1 (HFit.out n (by have := HLe.out; omega)).2.1 (by simp; omega) ?_; intro v8 w8 hO8 hg8; have HB8 := Lib.hid (HB2.out.trans (own_belowR HE2.out (by simp; omega) hg8)); rw [Nat.zero_add, List.nil_append] at hO8; have HO8 := Lib.hid hO8; have HSz : Hid (w.heap.size ≤ w8.heap.size) := Lib.hid HB8.out.size; have HXR : Hid (∀ j u, (ndL x)[j]? = some u → w8.cell? ⟨w.heap.size + 1, 0 + j, none⟩ = some u) := Lib.hid (fun j u hj => by have q : Blk w8 (w.heap.size + 1) 39 (ndR x) := (hg8.block _ HX2.out.lt (by simp [Value.ownBlock])).trans HX2.out; rw [Nat.zero_add, q.cell, ← Array.getElem?_toList]; exact hj); clear hO8 hg8)
      | (refine step_app_nd rfl (.tmp 36) (.tmp 37) 23 rfl w.heap.size 39 i8 _ 5 40 Try.underlying23 hi8 hx0 hx1 hx2 rfl (by decide) _ (.slice (some ⟨w.heap.size + 1, 0, none⟩) 0 0) 0 [] rfl HE3.out b f n cc (ndC l) rfl (HR.out _ HB3.out) HLc.out HLo.out (HFit.out n (by have := HLe.out; omega)).1 (HFit.out n (by have := HLe.out; omega)).2.1 (by simp; omega) ?_; intro v8 w8 hO8 hg8; have HB8 := Lib.hid (HB3.out.trans (own_belowR HE3.out (by simp; omega) hg8)); rw [Nat.zero_add, List.nil_append] at hO8; have HO8 := Lib.hid hO8; have HSz : Hid (w.heap.size ≤ w8.heap.size) := Lib.hid HB8.out.size; have HXR : Hid (∀ j u, (ndL x)[j]? = some u → w8.cell? ⟨w.heap.size, 0 + j, none⟩ = some u) := Lib.hid (fun j u hj => by have q : Blk w8 w.heap.size 39 (ndR x) := (hg8.block _ HX3.out.lt (by simp [Value.ownBlock])).trans HX3.out; rw [Nat.zero_add, q.cell, ← Array.getElem?_toList]; exact hj); clear hO8 hg8))
    all_goals
      go_wp2_with fail
      go_meet
      obtain ⟨g9, c9, e9, hr9⟩ := HR9.out
      exact ⟨g9, c9, e9, hr9, HB9.out⟩
  case rest =>
  obtain ⟨g, c, rfl, hr, hb⟩ := hcut
  obtain ⟨wz, hwe⟩ : ∃ x, x = wc := ⟨_, rfl⟩
  subst hwe
  have hlen : (l ++ [x]).length = n + 1 := by rw [List.length_append, HLN.out]; rfl
  have HC7 := e_Nodes order (l ++ [x]) A ca (some ⟨g, 0, none⟩) c wz ((HA.out.below hb (Nat.le_refl _)).mono hb.size) hr HO.out HM.out HL1.out (by have := HLe.out; omega)
  rw [hlen] at HC7
  have HC7 : Hid (Calls Try.prog 7 #[.slice A order.length ca, .slice (some ⟨g, 0, none⟩) (n + 1) c] wz fun e w' => ∃ L A1 c1, e = .returned (.slice A1 L.length c1) ∧ FdIn w' A1 L ∧ Below wz.heap.size wz w' ∧ (⟨2, x.id⟩ : Fd) ∈ L ∧ L.length ≤ 1000) := Lib.hid (HC7.mono (fun e w' ⟨v, he, ho, hb2⟩ => by
    obtain ⟨A1, c1, rfl, hc1⟩ := ho.cells
    refine ⟨_, A1, c1, he, hc1, hb2, ?_, ?_⟩
    · rw [hlen]; exact HTw.out
    · have := allF_len order (l ++ [x]) (l ++ [x]).length; rw [hlen] at *; have := HLe.out; omega))
  have HBz := Lib.hid hb
  clear hr hb hlen d0 d1 d2 d3 d4 HE1 HE2 HE3 HB1 HB2 HB3 HX2 HX3 HFit HLc HLo HAp hi8 hx0 hx1 hx2 HTw
  go_upto_region 7 with (go_at_call 7; refine HC7.out.mono ?_; rintro e w2 ⟨L1, A1, c1, rfl, hc1, hb2, hm1, hk1⟩; have HB2 := Lib.hid (HBz.out.trans (hb2.mono HBz.out.size)); have HC1 := Lib.hid hc1; have HM1 := Lib.hid hm1; have HK1 := Lib.hid hk1; obtain ⟨d0, d1, d2, d3, d4⟩ := HD.out _ HB2.out; have e2 : b < w2.heap.size := Nat.lt_of_lt_of_le hbl HB2.out.size; clear hb2 hc1 hm1 hk1)
  obtain ⟨y, hy⟩ : ∃ y : Nd, y = ⟨x.id, x.v, x.hi, x.hi, x.refs⟩ := ⟨_, rfl⟩
  have HY : Hid (y.ok ∧ y.lo = y.hi ∧ y.id = x.id) := Lib.hid (by subst hy; exact ⟨⟨HX.out.id, HX.out.v, HX.out.hi, HX.out.hi⟩, rfl, rfl⟩)
  have HSm := Lib.hid (same_mem order y HY.out.2.1)
  obtain ⟨w3, hw3⟩ : ∃ w3, w2.alloc (.cells #[.int .i64 x.id, .int .i64 x.v, .int .i64 x.hi, .int .i64 x.hi, .int .i64 x.refs] 39) = w3 := ⟨_, rfl⟩
  obtain ⟨g9, hg9⟩ : ∃ g9, w2.heap.size = g9 := ⟨_, rfl⟩
  have hB23 : Below w2.heap.size w2 w3 := by rw [← hw3]; exact bal _ _
  have hk9 : Blk w3 g9 39 (ndR y) := by rw [← hw3, ← hg9, hy]; exact Blk.new w2 39 _
  rw [hw3, hg9]
  have HB3 := Lib.hid (HB2.out.trans (hB23.mono HB2.out.size))
  have HC1' := Lib.hid (HC1.out.below hB23)
  have k0 := hk9.cell 0
  have k1 := hk9.cell 1
  have k2 := hk9.cell 2
  have k3 := hk9.cell 3
  have k4 := hk9.cell 4
  have hN1 : RowN (w3.alloc (.cells (ndR y) 39)).heap.size (w3.alloc (.cells (ndR y) 39)) (some ⟨w3.heap.size, 0, none⟩) [y] := fun _ => ⟨w3.heap.size, 0, rfl, by simp, fun k hk => by
    have q : Blk (w3.alloc (.cells (ndR y) 39)) w3.heap.size 39 (ndR y) := Blk.new w3 39 (ndR y)
    have : k = 0 := by simp at hk; omega
    subst this
    simp only [q.cell]
    exact ⟨rfl, rfl, rfl, rfl, rfl⟩⟩
  have hB34 : Below w3.heap.size w3 (w3.alloc (.cells (ndR y) 39)) := bal _ _
  have HB4 := Lib.hid (HB3.out.trans (hB34.mono HB3.out.size))
  have hO1 : OkN [y] := fun k hk => by
    have : k = 0 := by simpa using hk
    subst this
    exact HY.out.1
  have HC8 := e_Nodes order [y] A ca (some ⟨w3.heap.size, 0, none⟩) 1 (w3.alloc (.cells (ndR y) 39)) ((HA.out.below HB4.out (Nat.le_refl _)).mono HB4.out.size) hN1 HO.out hO1 HL1.out (by simp)
  have HC8 : Hid (Calls Try.prog 7 #[.slice A order.length ca, .slice (some ⟨w3.heap.size, 0, none⟩) 1 1] (w3.alloc (.cells (ndR y) 39)) fun e w' => ∃ L A2 c2, e = .returned (.slice A2 L.length c2) ∧ FdIn w' A2 L ∧ Below w3.heap.size w3 w' ∧ (⟨3, x.id⟩ : Fd) ∈ L ∧ L.length ≤ 1000) := Lib.hid (HC8.mono (fun e w' ⟨v, he, ho, hb2⟩ => by
    obtain ⟨A1, c1, rfl, hc1⟩ := ho.cells
    refine ⟨_, A1, c1, he, hc1, hB34.trans (hb2.mono hB34.size), ?_, ?_⟩
    · rw [← HY.out.2.2]; exact HSm.out
    · have := allF_len order [y] [y].length; simp at *; omega))
  have HYid : Hid (y.id = x.id) := Lib.hid HY.out.2.2
  have HK9 := Lib.hid hk9
  clear hB23 hB34 hN1 hO1 HC1 HB2 hw3 hg9 HY HSm hk9 d0 d1 d2 d3 d4 hy HX
  unfold ndR at HC8
  simp only [ndR, List.getElem?_toArray, List.getElem?_cons_zero, List.getElem?_cons_succ] at k0 k1 k2 k3 k4
  go_upto_region 9 with (go_at_call 7; refine HC8.out.mono ?_; rintro e w5 ⟨L2, A2, c2, rfl, hc2, hb5, hm2, hk2⟩; have HB5 := Lib.hid (HB3.out.trans (hb5.mono HB3.out.size)); have HC2 := Lib.hid hc2; have HM2 := Lib.hid hm2; have HK2 := Lib.hid hk2; have HC3 := Lib.hid (HC1'.out.below hb5); have HK5 := Lib.hid (HK9.out.below hb5 HK9.out.lt); clear hb5 hc2 hm2 hk2)
  go_wp2
  have HLi := Lib.hid lives_any
  go_loopw [11, 61] (fun s11 i wr => ∃ (k : Nat) (bb : Bool), k ≤ L1.length ∧ i = .int .i64 (k : Int) ∧ s11 = .bool bb ∧ Hid ((L1.take k).any (fun y => decide (y.k = 2) && decide (y.id = x.id)) = bb) ∧ Hid (Below w5.heap.size w5 wr)) (fun _ i _ => L1.length - (intOf i).toNat)
  case atStart => exact ⟨0, false, Nat.zero_le _, rfl, rfl, Lib.hid rfl, Lib.hid (Below.refl _ _)⟩
  case round =>
    obtain ⟨k, bb, hk, rfl, rfl, HF, HB⟩ := hrel
    have hbd := HK1.out
    by_cases hlt : k < L1.length
    · have l1 : (k : Int) < (L1.length : Int) := by omega
      obtain ⟨z, hz⟩ : ∃ z, L1[k]? = some z := ⟨_, List.getElem?_eq_getElem hlt⟩
      obtain ⟨gg, rfl, hgl, y0, y1⟩ := HC3.out k z hz
      have z0 := (HB.out.cell (p := ⟨gg, k * 2, none⟩) hgl).trans y0
      have z1 := (HB.out.cell (p := ⟨gg, k * 2 + 1, none⟩) hgl).trans y1
      have HTK : Hid (L1.take (k + 1) = L1.take k ++ [z]) := Lib.hid (by
        rw [List.take_succ_eq_append_getElem hlt]; congr 2; rw [List.getElem?_eq_getElem hlt] at hz; injection hz)
      obtain ⟨r, hr⟩ : ∃ r, (decide (z.k = 2) && decide (z.id = x.id)) = r := ⟨_, rfl⟩
      have q := eql_fd 31 (.inr rfl) z.k z.id 2 x.id
      rw [hr] at q
      have HFn : Hid ((L1.take (k + 1)).any (fun y => decide (y.k = 2) && decide (y.id = x.id)) = (bb || r)) := Lib.hid (by rw [HTK.out, List.any_append, HF.out]; simp [← hr])
      obtain ⟨d0, -⟩ := HD.out wr (HB5.out.trans (HB.out.mono HB5.out.size))
      have e3 : b < wr.heap.size := Nat.lt_of_lt_of_le (Nat.lt_of_lt_of_le hbl HB5.out.size) HB.out.size
      have e4 : gg < wr.heap.size := Nat.lt_of_lt_of_le hgl HB.out.size
      clear y0 y1 hz hr
      have HBn : Hid (Below w5.heap.size w5 (wr.alloc (.cells #[.int .i64 z.k, .int .i64 z.id] 31))) := Lib.hid (HB.out.alloc HB.out.size _)
      cases bb
      · go_wp2
        go_region
        go_wp2
        go_roundw
        case rel => exact ⟨k + 1, r, by omega, by go_num, by first | rfl | simp, by rw [HFn.out]; exact Lib.hid rfl, Lib.hid (by first | exact HBn.out.drew | exact HBn.out | exact below_drewM HBn.out _)⟩
        case measure => simp [intOf]; try omega
      · go_wp2
        go_region
        go_wp2
        go_roundw
        case rel => exact ⟨k + 1, true, by omega, by go_num, by first | rfl | simp, by rw [HFn.out]; exact Lib.hid rfl, Lib.hid (by first | exact HBn.out.drew | exact HBn.out | exact below_drewM HBn.out _)⟩
        case measure => simp [intOf]; try omega
    · have l1 : ¬ (k : Int) < (L1.length : Int) := by omega
      obtain rfl : k = L1.length := by omega
      obtain rfl : bb = true := by
        have := HF.out
        rw [List.take_length] at this
        rw [← this]
        exact List.any_eq_true.2 ⟨_, HM1.out, by simp⟩
      have HC4 := Lib.hid (HC2.out.below HB.out)
      have HK6 := Lib.hid (HK5.out.below HB.out HK5.out.lt)
      have HB6 := Lib.hid (HB5.out.trans (HB.out.mono HB5.out.size))
      obtain ⟨w6, hw6⟩ : ∃ w6, w6 = wr := ⟨_, rfl⟩
      subst hw6
      clear HB HF HC2 HK5
      go_wp2
      go_loopw [12, 79] (fun s12 i wr => ∃ (k : Nat) (bb : Bool), k ≤ L2.length ∧ i = .int .i64 (k : Int) ∧ s12 = .bool bb ∧ Hid ((L2.take k).any (fun y => decide (y.k = 3) && decide (y.id = x.id)) = bb) ∧ Hid (Below w6.heap.size w6 wr)) (fun _ i _ => L2.length - (intOf i).toNat)
      case atStart => exact ⟨0, false, Nat.zero_le _, rfl, rfl, Lib.hid rfl, Lib.hid (Below.refl _ _)⟩
      case round =>
        obtain ⟨k, bb, hk, rfl, rfl, HF, HB⟩ := hrel
        have hbd := HK2.out
        by_cases hlt : k < L2.length
        · have l1 : (k : Int) < (L2.length : Int) := by omega
          obtain ⟨z, hz⟩ : ∃ z, L2[k]? = some z := ⟨_, List.getElem?_eq_getElem hlt⟩
          obtain ⟨gg, rfl, hgl, y0, y1⟩ := HC4.out k z hz
          have z0 := (HB.out.cell (p := ⟨gg, k * 2, none⟩) hgl).trans y0
          have z1 := (HB.out.cell (p := ⟨gg, k * 2 + 1, none⟩) hgl).trans y1
          have HTK : Hid (L2.take (k + 1) = L2.take k ++ [z]) := Lib.hid (by
            rw [List.take_succ_eq_append_getElem hlt]; congr 2; rw [List.getElem?_eq_getElem hlt] at hz; injection hz)
          obtain ⟨r, hr⟩ : ∃ r, (decide (z.k = 3) && decide (z.id = x.id)) = r := ⟨_, rfl⟩
          have q := eql_fd 31 (.inr rfl) z.k z.id 3 x.id
          rw [hr] at q
          have HFn : Hid ((L2.take (k + 1)).any (fun y => decide (y.k = 3) && decide (y.id = x.id)) = (bb || r)) := Lib.hid (by rw [HTK.out, List.any_append, HF.out]; simp [← hr])
          have k0 := (HK6.out.below HB.out HK6.out.lt).cell 0
          simp only [ndR, List.getElem?_toArray, List.getElem?_cons_zero] at k0
          rw [HYid.out] at k0
          have e3 : g9 < wr.heap.size := (HK6.out.below HB.out HK6.out.lt).lt
          have e4 : gg < wr.heap.size := Nat.lt_of_lt_of_le hgl HB.out.size
          clear y0 y1 hz hr
          have HBn : Hid (Below w6.heap.size w6 (wr.alloc (.cells #[.int .i64 z.k, .int .i64 z.id] 31))) := Lib.hid (HB.out.alloc HB.out.size _)
          cases bb
          · go_wp2
            go_roundw
            case rel => exact ⟨k + 1, r, by omega, by go_num, by first | rfl | simp, by rw [HFn.out]; exact Lib.hid rfl, Lib.hid (by first | exact HBn.out.drew | exact HBn.out | exact below_drewM HBn.out _)⟩
            case measure => simp [intOf]; try omega
          · go_wp2
            go_roundw
            case rel => exact ⟨k + 1, true, by omega, by go_num, by first | rfl | simp, by rw [HFn.out]; exact Lib.hid rfl, Lib.hid (by first | exact HBn.out.drew | exact HBn.out | exact below_drewM HBn.out _)⟩
            case measure => simp [intOf]; try omega
        · have l1 : ¬ (k : Int) < (L2.length : Int) := by omega
          obtain rfl : k = L2.length := by omega
          obtain rfl : bb = true := by
            have := HF.out
            rw [List.take_length] at this
            rw [← this]
            exact List.any_eq_true.2 ⟨_, HM2.out, by simp⟩
          have HLv := Lib.hid (HLi.out wr)
          have HBe := Lib.hid (HB6.out.trans (HB.out.mono HB6.out.size))
          clear HF HB
          go_wp2_with (go_at_call 6; refine HLv.out.mono ?_; rintro e w7 ⟨rfl, b7⟩; have HB7 := Lib.hid (HBe.out.trans (b7.mono HBe.out.size)); clear b7)
          go_ret
          exact ⟨rfl, HB7.out⟩
end Go.Proofs.Ytmpcfplpdbdmmaa
