/- Contracts of fold over values and of Eval, of layer 30 (terms). -/
import Derived.Test.YtcdpjodnbegepaaFnR
namespace Go.Proofs.Ytcdpjodnbegepaa
open Go.RowKit Go.Maps

theorem res_v2 {fn : Func} {p u : Tmp} (h : fn.results = #[.cell p 3, .cell u 32]) (tmps : Array Value) (w : World) (g g2 : Nat) (a e : Int) (hp : tmps.getD p undef = .pointer (some ⟨g, 0, none⟩)) (hu : tmps.getD u undef = .pointer (some ⟨g2, 0, none⟩)) (hg : Blk w g 3 #[.int .i64 a]) (hg2 : Blk w g2 32 #[.int .i64 e]) :
    (results fn tmps).run Try.prog w = .ok (.tuple #[.int .i64 a, .int .i64 e]) w := by
  rw [results_cell_cell h, hp, hu]
  have h2 := load_one w g 3 a Try.underlying3 (hg.cell 0)
  have h3 := load_one w g2 32 e Try.underlying32 (hg2.cell 0)
  simp [asAddr, Result.andThen, h2, h3]
set_option maxRecDepth 100000 in
set_option maxHeartbeats 4000000 in
theorem pr_fold48 (nd : Ex → List Int → Int × Int) (p1 p2 p3 p4 : Value) (ok : Ex → Prop) (pk : Int → Prop) (w : World)
    (hok : ∀ t, ok t → ∀ k, k ∈ t.ks → ok k) (hpk : ∀ t l, ok t → (∀ y, y ∈ l → pk y) → l.length = t.ks.length → (nd t l).2 = 0 → pk (nd t l).1)
    (hdo : ∀ w', Below w.heap.size w w' → ∀ t A c l K ck, ok t → Rep w.heap.size w A t → RI w' w'.heap.size K l → l.length = t.ks.length → (∀ y, y ∈ l → pk y) → fdL (0 : Int) nd t.ks = ((l, (0 : Int)), 0) → Calls Try.prog 49 #[exV t A c, .slice K l.length ck, p1, p2, p3, p4] w' (Two (nd t l) w'))
    (t : Ex) (A : Option Addr) (c : Nat) (hs : t.sz ≤ 100000000) (hokt : ok t) (hR : Rep w.heap.size w A t) :
    Calls Try.prog 48 #[exV t A c, .func (.func 49) #[] #[p1, p2, p3, p4]] w (Two (fd (0 : Int) nd t) w) := by
  obtain ⟨W0, hW⟩ : ∃ W0, (((((w.alloc (.cells #[.int .i64 t.op, .int .i64 t.vr, .string t.nm, .slice A t.ks.length c] 24)).alloc (.cells #[.func (.func 49) #[] #[p1, p2, p3, p4]] 77)).alloc (.cells #[.int .i64 0] 3)).alloc (.cells #[.int .i64 0] 32)).alloc (.cells #[.slice none 0 0] 45)).alloc (.cells #[.nilFunc] 25) = W0 := ⟨_, rfl⟩
  have hBW : Below w.heap.size w W0 := by rw [← hW]; exact Go.Proofs.Ytcdpjodnbegepaa.al (Go.Proofs.Ytcdpjodnbegepaa.al (Go.Proofs.Ytcdpjodnbegepaa.al (Go.Proofs.Ytcdpjodnbegepaa.al (Go.Proofs.Ytcdpjodnbegepaa.al (Go.Proofs.Ytcdpjodnbegepaa.al (Below.refl _ _) _) _) _) _) _) _
  have hWs : W0.heap.size = w.heap.size + 1 + 1 + 1 + 1 + 1 + 1 := by rw [← hW]; simp
  have blk : ∀ (w : World) (g : Nat) (ty : TypeId) (cs : Array Value), w.heap.size = g → Blk (w.alloc (.cells cs ty)) g ty cs := fun w g ty cs e => by rw [← e]; exact Blk.new w ty cs
  have HBK : Hid (Blk W0 (w.heap.size + 1) 77 #[.func (.func 49) #[] #[p1, p2, p3, p4]] ∧ Blk W0 (w.heap.size + 1 + 1) 3 #[.int .i64 0] ∧ Blk W0 (w.heap.size + 1 + 1 + 1) 32 #[.int .i64 0] ∧ Blk W0 (w.heap.size + 1 + 1 + 1 + 1) 45 #[.slice none 0 0] ∧ Blk W0 (w.heap.size + 1 + 1 + 1 + 1 + 1) 25 #[.nilFunc] ∧ Blk W0 w.heap.size 24 #[.int .i64 t.op, .int .i64 t.vr, .string t.nm, .slice A t.ks.length c]) := Lib.hid (by
    rw [← hW]
    exact ⟨((((blk _ _ _ _ (by simp)).alloc _).alloc _).alloc _).alloc _, (((blk _ _ _ _ (by simp)).alloc _).alloc _).alloc _, ((blk _ _ _ _ (by simp)).alloc _).alloc _, (blk _ _ _ _ (by simp)).alloc _, blk _ _ _ _ (by simp), (((((blk _ _ _ _ rfl).alloc _).alloc _).alloc _).alloc _).alloc _⟩)
  obtain ⟨W, hW2⟩ : ∃ W, W0.setCell ⟨w.heap.size + 1 + 1 + 1 + 1 + 1, 0, none⟩ (.func (.func 69) #[] (fC (w.heap.size + 1 + 1 + 1 + 1 + 1) (w.heap.size + 1 + 1 + 1 + 1) (w.heap.size + 1) (w.heap.size + 1 + 1) (w.heap.size + 1 + 1 + 1))) = W := ⟨_, rfl⟩
  have hBW2 : Below w.heap.size w W := by rw [← hW2]; exact below_set hBW (by omega) _ _
  have hWs2 : W.heap.size = w.heap.size + 1 + 1 + 1 + 1 + 1 + 1 := by rw [← hW2]; simp [hWs]
  have HBK2 : Hid (Blk W (w.heap.size + 1) 77 #[.func (.func 49) #[] #[p1, p2, p3, p4]] ∧ Blk W (w.heap.size + 1 + 1) 3 #[.int .i64 0] ∧ Blk W (w.heap.size + 1 + 1 + 1) 32 #[.int .i64 0] ∧ Blk W (w.heap.size + 1 + 1 + 1 + 1) 45 #[.slice none 0 0] ∧ Blk W (w.heap.size + 1 + 1 + 1 + 1 + 1) 25 #[.func (.func 69) #[] (fC (w.heap.size + 1 + 1 + 1 + 1 + 1) (w.heap.size + 1 + 1 + 1 + 1) (w.heap.size + 1) (w.heap.size + 1 + 1) (w.heap.size + 1 + 1 + 1))]) := Lib.hid (by
    rw [← hW2]
    obtain ⟨x1, x2, x3, x4, x5, _⟩ := HBK.out
    exact ⟨x1.set_other (by omega) _ _, x2.set_other (by omega) _ _, x3.set_other (by omega) _ _, x4.set_other (by omega) _ _, x5.set_ 0 _⟩)
  have HC := pr_foldV w nd p1 p2 p3 p4 ok pk (w.heap.size + 1 + 1 + 1 + 1 + 1) (w.heap.size + 1 + 1 + 1 + 1) (w.heap.size + 1) (w.heap.size + 1 + 1) (w.heap.size + 1 + 1 + 1) (w.heap.size + 1 + 1 + 1 + 1 + 1 + 1) hok hpk hdo t.sz t (Nat.le_refl _) hs hokt A c (fun b => b = w.heap.size + 1 + 1 + 1 + 1 ∨ b = w.heap.size + 1 + 1 ∨ b = w.heap.size + 1 + 1 + 1 ∨ w.heap.size + 1 + 1 + 1 + 1 + 1 + 1 ≤ b) [] (0 : Int) 0 W hR hBW2 (fun b hb => by omega) (fun b hb => by omega) ⟨HBK2.out.2.2.2.2, HBK2.out.1⟩ (by omega) (by omega)
    ⟨⟨by omega, by omega, by omega⟩, ⟨by omega, by omega, by omega⟩, ⟨by omega, by omega, by omega⟩, by omega, none, 0, HBK2.out.2.2.2.1, OwnV.nil _ _, (fun k hk => by cases hk), HBK2.out.2.1, HBK2.out.2.2.1⟩ (by simpa using hs)
  have HCC := Lib.hid HC
  have HWW := Lib.hid hW
  have HWW2 := Lib.hid hW2
  have HBW := Lib.hid hBW2
  obtain ⟨R, hRs⟩ : ∃ R, fd (0 : Int) nd t = R := ⟨_, rfl⟩
  rw [hRs] at HCC ⊢
  obtain ⟨Rl, Re⟩ := R
  clear HC hW hW2 hBW hBW2 hok hpk hdo hokt hR hRs blk
  go_enter Try.func48, Try.ntmps48
  go_upto_region 3 with (go_at_call 999)
  rw [HWW.out]
  have a5 : W0.cell? ⟨w.heap.size + 1 + 1 + 1 + 1 + 1, 0, none⟩ = some .nilFunc := HBK.out.2.2.2.2.1.cell 0
  have b5 : W0.frozen? ⟨w.heap.size + 1 + 1 + 1 + 1 + 1, 0, none⟩ = false := HBK.out.2.2.2.2.1.frozen 0
  have l5 := HBK.out.2.2.2.2.1.lt
  have q0 : W0.cell? ⟨w.heap.size, 0, none⟩ = some (.int .i64 t.op) := HBK.out.2.2.2.2.2.cell 0
  have q1 : W0.cell? ⟨w.heap.size, 1, none⟩ = some (.int .i64 t.vr) := HBK.out.2.2.2.2.2.cell 1
  have q2 : W0.cell? ⟨w.heap.size, 2, none⟩ = some (.string t.nm) := HBK.out.2.2.2.2.2.cell 2
  have q3 : W0.cell? ⟨w.heap.size, 3, none⟩ = some (.slice A t.ks.length c) := HBK.out.2.2.2.2.2.cell 3
  have l6 := HBK.out.2.2.2.2.2.lt
  go_wp2_with (go_at_call 69; rw [HWW2.out]; (with_reducible refine HCC.out.mono ?_); rintro e w1 ⟨he, hf, _, D', hi⟩; obtain ⟨_, _, _, _, _, _, _, _, _, k1, k2⟩ := hi; have r0 : w1.cell? ⟨w.heap.size + 1 + 1, 0, none⟩ = _ := k1.cell 0; have r3 : w1.frozen? ⟨w.heap.size + 1 + 1, 0, none⟩ = false := k1.frozen 0; have r6 : w1.cell? ⟨w.heap.size + 1 + 1 + 1, 0, none⟩ = _ := k2.cell 0; have r7 : w1.frozen? ⟨w.heap.size + 1 + 1 + 1, 0, none⟩ = false := k2.frozen 0; have r8 := k1.lt; have r9 := k2.lt; have K1 := Lib.hid k1; have K2 := Lib.hid k2; have HF := Lib.hid (HBW.out.trans (hf.below2 (B := w.heap.size) (fun k hk hs => by omega) (by omega))); clear hf k1 k2; subst he)
  clear a5 b5 q0 q1 q2 q3
  go_region
  all_goals
    go_wp2
    refine bodyPost_ret (res_v2 rfl _ _ (w.heap.size + 1 + 1) (w.heap.size + 1 + 1 + 1) _ _ rfl rfl ((K1.out.set_ 0 _).set_other (by omega) _ _) ((K2.out.set_other (by omega) _ _).set_ 0 _)) rfl ⟨rfl, ?_⟩
    exact (below_set (below_set HF.out (by omega) _ _) (by omega) _ _).drew
section
variable {α : Type} {z : α} {nd : Ex → List α → α × Int}
theorem fdL_zero : ∀ {ks : List Ex}, (fdL z nd ks).2 = 0 → ∀ k, k ∈ ks → (fd z nd k).2 = 0
  | t :: r, h, k, hk => by
    by_cases g : (fd z nd t).2 = 0
    · have e : fdL z nd (t :: r) = (((fd z nd t).1 :: (fdL z nd r).1.1, (fdL z nd r).1.2), (fdL z nd r).2) := if_pos g
      rw [e] at h
      rcases List.mem_cons.1 hk with rfl | hk
      · exact g
      · exact fdL_zero h k hk
    · have e : fdL z nd (t :: r) = (([], (fd z nd t).1), (fd z nd t).2) := if_neg g
      rw [e] at h
      exact absurd h g
theorem fd_kids {t : Ex} (h : (fd z nd t).2 = 0) : (fdL z nd t.ks).2 = 0 := by
  rw [fd_eq] at h
  by_cases g : (fdL z nd t.ks).2 = 0
  · exact g
  · rw [if_neg g] at h; exact h
theorem fd_node {t : Ex} (h : (fd z nd t).2 = 0) : fd z nd t = nd t (fdL z nd t.ks).1.1 := by rw [fd_eq, if_pos (fd_kids h)]
theorem fdL_at : ∀ {ks : List Ex} {l : List α} {e : α}, fdL z nd ks = ((l, e), 0) → ∀ i, i < ks.length → l[i]? = some (fd z nd (kd ks i)).1
  | t :: r, l, e, h, i, hi => by
    by_cases g : (fd z nd t).2 = 0
    · have e1 : fdL z nd (t :: r) = (((fd z nd t).1 :: (fdL z nd r).1.1, (fdL z nd r).1.2), (fdL z nd r).2) := if_pos g
      rw [e1] at h
      have h1 : (fd z nd t).1 :: (fdL z nd r).1.1 = l := congrArg (fun p => p.1.1) h
      have h2 : (fdL z nd r).2 = 0 := congrArg (fun p => p.2) h
      rw [← h1]
      cases i with
      | zero => rfl
      | succ i =>
        rw [List.getElem?_cons_succ, kd_cons]
        exact fdL_at (e := (fdL z nd r).1.2) (by rw [← h2]) i (by simpa using hi)
    · have e1 : fdL z nd (t :: r) = (([], (fd z nd t).1), (fd z nd t).2) := if_neg g
      rw [e1] at h
      have h2 : (fd z nd t).2 = 0 := congrArg (fun p => p.2) h
      exact absurd h2 g
end
/-- The numbers that an evaluation meets. -/
def NearV (y : Int) : Prop := -9007199254740992 ≤ y ∧ y ≤ 9007199254740992
theorem li_near {l : List Int} (h : ∀ y, y ∈ l → NearV y) (i : Nat) : NearV (li l i) := by
  by_cases g : i < l.length
  · exact h _ (li_mem g)
  · have : li l i = 0 := by unfold li; simp [List.getD, List.getElem?_eq_none (by omega : l.length ≤ i)]
    rw [this]; unfold NearV; omega
theorem with_near {n : Int} {b : Bool} (h : b = true → NearV n) (h0 : (withS n b).2 = 0) : NearV (withS n b).1 := by
  cases b
  · simp [withS] at h0
  · exact h rfl
theorem add_near {a b : Int} (h : (addF a b).2 = true) : NearV (addF a b).1 := by
  unfold addF at h ⊢
  split at h
  · rename_i g; rw [if_pos g]; exact g
  · cases h
theorem mul_near {a b : Int} (h : (mulF a b).2 = true) : NearV (mulF a b).1 := by
  unfold mulF at h ⊢
  split at h
  · rename_i g; rw [if_pos g]; exact g
  · cases h
theorem comp_near {o a b : Int} (h : (compS o a b).2 = true) : NearV (compS o a b).1 := by
  unfold compS at h ⊢
  split
  · rename_i g; rw [if_pos g] at h; exact add_near h
  · rename_i g; rw [if_neg g] at h
    split
    · rename_i g2; rw [if_pos g2] at h; exact add_near h
    · rename_i g2; rw [if_neg g2] at h; exact mul_near h
theorem truth_near (b : Bool) : NearV (truthS b) := by cases b <;> (unfold NearV truthS; decide)
theorem vvS_near {v : Vr} {n : Int} (h : (vvS v n).2 = 0) : NearV (vvS v n).1 := by
  unfold vvS at h ⊢
  split
  · exact truth_near _
  · rename_i g; rw [if_neg g] at h; exact with_near add_near h
theorem mod_near {x y : Int} (hx : NearV x) (hy : NearV y) : NearV (modS x y) := by
  unfold modS NearV at *
  by_cases g : y = 0
  · subst g; simp; exact hx
  · have h1 := Int.emod_nonneg (x.tmod y + y) g
    by_cases g2 : 0 < y
    · have h2 := Int.emod_lt_of_pos (x.tmod y + y) g2
      omega
    · have h2 := Int.emod_lt_of_pos (x.tmod y + y) (show 0 < -y by omega)
      rw [Int.emod_neg] at h2
      omega
theorem valS_near {o v : Int} {l : List Int} (hv : -255 ≤ v ∧ v ≤ 255) (hl : ∀ y, y ∈ l → NearV y) (h : (valS o v l).2 = 0) : NearV (valS o v l).1 := by
  unfold valS at h ⊢
  by_cases g4 : o = 1 ∨ o = 2
  · rw [if_pos g4]; unfold NearV; simp only; omega
  · rw [if_neg g4] at h ⊢
    by_cases g5 : o = 14 ∨ o = 15 ∨ o = 16
    · rw [if_pos g5] at h ⊢; exact with_near comp_near h
    · rw [if_neg g5] at h ⊢
      by_cases g6 : o = 18
      · rw [if_pos g6]
        show NearV (if li l 0 = 0 then li l 2 else li l 1)
        split
        · exact li_near hl 2
        · exact li_near hl 1
      · rw [if_neg g6]; exact truth_near _
theorem valN_near {vs : List Vr} {s n : List Int} {t : Ex} {l : List Int} (ht : Good t) (hl : ∀ y, y ∈ l → NearV y) (h : (valN vs s n t l).2 = 0) : NearV (valN vs s n t l).1 := by
  unfold valN at h ⊢
  by_cases g : (if t.op = 4 then n else s).length ≠ vs.length
  · rw [if_pos g] at h; exact absurd h (by decide)
  · rw [if_neg g] at h ⊢
    by_cases g2 : t.op = 3 ∨ t.op = 4
    · rw [if_pos g2] at h ⊢
      cases hi : idxN t.nm vs with
      | some i => rw [hi] at h; exact vvS_near h
      | none => show NearV 0; unfold NearV; omega
    · rw [if_neg g2] at h ⊢
      by_cases g3 : t.op = 17
      · rw [if_pos g3]; exact mod_near (li_near hl 0) (li_near hl 1)
      · rw [if_neg g3] at h ⊢
        exact valS_near (okN_i64 ht.node) hl h
/-- A term that is right and typed. -/
def okE (vs : List Vr) (t : Ex) : Prop := Good t ∧ (fd ty0 (nodeT vs true) t).2 = 0
theorem okE.kid {vs : List Vr} {t : Ex} (h : okE vs t) : ∀ k, k ∈ t.ks → okE vs k := fun k hk => ⟨h.1.kid hk, fdL_zero (fd_kids h.2) k hk⟩
theorem okE.idx {vs : List Vr} {t : Ex} (h : okE vs t) (ho : t.op = 3 ∨ t.op = 4) : ∃ i, idxN t.nm vs = some i := by
  have h2 := h.2
  rw [fd_node h.2] at h2
  generalize (fdL ty0 (nodeT vs true) t.ks).1.1 = L at h2
  unfold nodeT at h2
  rw [if_pos ho] at h2
  unfold varT at h2
  cases hi : idxN t.nm vs with
  | some i => exact ⟨i, rfl⟩
  | none => rw [hi] at h2; have h3 : (12 : Int) = 0 := h2; omega
theorem okE.mod {vs : List Vr} {t : Ex} (h : okE vs t) (ho : t.op = 17) : (kd t.ks 1).op = 1 ∧ 0 < (kd t.ks 1).vr := by
  have h2 := h.2
  rw [fd_node h.2] at h2
  generalize (fdL ty0 (nodeT vs true) t.ks).1.1 = L at h2
  unfold nodeT at h2
  rw [if_neg (by omega)] at h2
  unfold tyOf at h2
  by_cases g : suitS t.op L = false
  · rw [if_pos g] at h2; have h3 : (13 : Int) = 0 := h2; omega
  · rw [if_neg g, if_neg (by omega), if_neg (by omega), if_pos ho] at h2
    by_cases g2 : (kd t.ks 1).op = 1 ∧ 0 < (kd t.ks 1).vr
    · exact g2
    · rw [if_neg g2] at h2; have h3 : (2 : Int) = 0 := h2; omega
theorem leaf_of {t : Ex} (h : okN t.op t.vr t.nm.size t.ks.length) (ho : t.op = 1) : t.ks = [] := by
  obtain ⟨_, _, _, _, _, _, _, h2⟩ := h
  unfold kidM at h2
  rw [if_pos (.inl ho)] at h2
  exact List.eq_nil_of_length_eq_zero (by omega)
theorem val_one_op {vs : List Vr} {s n : List Int} {t : Ex} (hs : s.length = vs.length) (ht : Good t) (ho : t.op = 1) : fd (0 : Int) (valN vs s n) t = (t.vr, 0) := by
  have hk := leaf_of ht.node ho
  rw [fd_eq, hk]
  show valN vs s n t [] = _
  unfold valN
  rw [if_neg (show ¬ t.op = 4 by omega), if_neg (by omega), if_neg (by omega), if_neg (by omega)]
  unfold valS
  rw [if_pos (.inl ho)]
theorem mod_at {vs : List Vr} {s n : List Int} {t : Ex} {l : List Int} (hs : s.length = vs.length) (h : okE vs t) (ho : t.op = 17) (hf : fdL (0 : Int) (valN vs s n) t.ks = ((l, (0 : Int)), 0)) : li l 1 = (kd t.ks 1).vr ∧ 0 < li l 1 ∧ li l 1 ≤ 1000000000 := by
  have hm := h.mod ho
  have hlen : t.ks.length = 2 := by
    obtain ⟨_, _, _, _, _, _, h1, h2⟩ := h.1.node
    unfold kidL at h1
    unfold kidM at h2
    (repeat' split at h1) <;> (repeat' split at h2) <;> omega
  have h1 := fdL_at hf 1 (by omega)
  have hg := h.1.kid (kd_mem (by omega : 1 < t.ks.length))
  rw [val_one_op hs hg hm.1] at h1
  have e : li l 1 = (kd t.ks 1).vr := by unfold li; simp [List.getD, h1]
  have := okN_i64 hg.node
  exact ⟨e, by omega, by omega⟩
/-- The value of a term, and whether there is one. -/
def evS (vs : List Vr) (t : Ex) (s n : List Int) : Int × Bool := if (typS vs true t).2 = 0 ∧ s.length = vs.length then ((fd (0 : Int) (valN vs s n) t).1, (fd (0 : Int) (valN vs s n) t).2 == 0) else (0, false)
end Go.Proofs.Ytcdpjodnbegepaa
