/- What Check gives of each node; the contract of Type$1, of layer 30 (terms). -/
import Derived.Test.YtcdpjodnbegepaaFnM
namespace Go.Proofs.Ytcdpjodnbegepaa
open Go.RowKit Go.Maps

/-- A node by itself is right. -/
def okN (o v : Int) (L n : Nat) : Prop := 1 ≤ o ∧ o ≤ 18 ∧ numL o ≤ v ∧ v ≤ numM o ∧ lenL o ≤ (L : Int) ∧ (L : Int) ≤ lenM o ∧ kidL o ≤ (n : Int) ∧ (n : Int) ≤ kidM o
mutual
/-- Every node is right. -/
def Good : Ex → Prop | .mk o v m ks => okN o v m.size ks.length ∧ GoodL ks
def GoodL : List Ex → Prop
  | [] => True
  | t :: r => Good t ∧ GoodL r
end
theorem good_eq (t : Ex) : Good t ↔ okN t.op t.vr t.nm.size t.ks.length ∧ GoodL t.ks := by cases t; exact Iff.rfl
theorem goodL_mem : ∀ {l : List Ex} {t : Ex}, GoodL l → t ∈ l → Good t
  | a :: r, t, h, hm => by
    rcases List.mem_cons.1 hm with rfl | hm
    · exact h.1
    · exact goodL_mem h.2 hm
theorem Good.kid {t k : Ex} (h : Good t) (hk : k ∈ t.ks) : Good k := goodL_mem ((good_eq t).1 h).2 hk
theorem Good.node {t : Ex} (h : Good t) : okN t.op t.vr t.nm.size t.ks.length := ((good_eq t).1 h).1
theorem flaw_ok {o v : Int} {L n : Nat} {d k : Int} (h : flawS o v L n d k = 0) : okN o v L n := by
  unfold flawS at h
  unfold okN
  (repeat' split at h) <;> first | omega | (exfalso; omega)
mutual
theorem chk_good : ∀ (t : Ex) (d k : Int), (chk t d k).1 = 0 → Good t
  | .mk o v m ks, d, k, h => by
    rw [chk_eq] at h
    by_cases g : flawS o v m.size ks.length d (wrap64 (k + 1)) = 0
    · have e : flawS (Ex.mk o v m ks).op (Ex.mk o v m ks).vr (Ex.mk o v m ks).nm.size (Ex.mk o v m ks).ks.length d (wrap64 (k + 1)) = 0 := g
      rw [if_pos e] at h
      exact ⟨flaw_ok g, chkL_good ks _ _ h⟩
    · have e : ¬ flawS (Ex.mk o v m ks).op (Ex.mk o v m ks).vr (Ex.mk o v m ks).nm.size (Ex.mk o v m ks).ks.length d (wrap64 (k + 1)) = 0 := g
      rw [if_neg e] at h
      exact absurd h g
theorem chkL_good : ∀ (l : List Ex) (d k : Int), (chkL l d k).1 = 0 → GoodL l
  | [], _, _, _ => trivial
  | t :: r, d, k, h => by
    have e : chkL (t :: r) d k = if (chk t d k).1 = 0 then chkL r d (chk t d k).2 else chk t d k := rfl
    rw [e] at h
    by_cases g : (chk t d k).1 = 0
    · rw [if_pos g] at h
      exact ⟨chk_good t d k g, chkL_good r _ _ h⟩
    · rw [if_neg g] at h
      exact absurd h g
end
theorem chkE_good {t : Ex} (h : chkE t = 0) : Good t := chk_good t 1 0 h
theorem okN_i64 {o v : Int} {L n : Nat} (h : okN o v L n) : -255 ≤ v ∧ v ≤ 255 := by
  obtain ⟨_, _, h1, h2, _⟩ := h
  unfold numL at h1
  unfold numM at h2
  constructor
  · split at h1 <;> omega
  · (repeat' split at h2) <;> omega
theorem idxN_lt {m : ByteArray} : ∀ {l : List Vr} {i : Nat}, idxN m l = some i → i < l.length
  | [], i, h => by cases h
  | v :: r, i, h => by
    unfold idxN at h
    split at h
    · cases h; simp
    · cases hk : idxN m r with
      | none => rw [hk] at h; cases h
      | some j =>
        rw [hk] at h
        have := idxN_lt hk
        have e : j + 1 = i := by simpa using h
        simp; omega
/-- The type of a variable by its place. -/
def varT (vs : List Vr) (nx : Bool) (t : Ex) : Ty × Int := match idxN t.nm vs with | none => (ty0, 12) | some i => if t.op = 4 ∧ nx = false then (ty0, 24) else vspan (va vs i)
def nodeT (vs : List Vr) (nx : Bool) (t : Ex) (l : List Ty) : Ty × Int := if t.op = 3 ∨ t.op = 4 then varT vs nx t else tyOf t l
theorem fits_of {t : Ex} {l : List Ty} (h : okN t.op t.vr t.nm.size t.ks.length) (hl : l.length = t.ks.length) : Fits t l := by
  obtain ⟨_, _, _, _, _, _, h1, h2⟩ := h
  unfold kidL at h1
  unfold kidM at h2
  refine ⟨fun h => ?_, fun h => ?_, fun h => ?_⟩
  · rw [if_neg (by omega), if_neg (by omega), if_neg (by omega)] at h1
    rw [if_neg (by omega), if_neg (by omega), if_neg (by omega), if_neg (by omega)] at h2
    omega
  · rw [if_neg (by omega), if_neg (by omega), if_neg (by omega)] at h1
    rw [if_neg (by omega), if_neg (by omega), if_neg (by omega), if_neg (by omega)] at h2
    omega
  · rw [if_neg (by omega), if_neg (by omega), if_pos (by omega)] at h1
    rw [if_neg (by omega), if_neg (by omega), if_neg (by omega), if_pos (by omega)] at h2
    omega
set_option maxRecDepth 100000 in
set_option maxHeartbeats 4000000 in
theorem pr_Type1 (vs : List Vr) (nx : Bool) (D : DataW Unit) (bp bn bv bm nm : Nat) (V : Option Addr) (cv : Nat) (t : Ex) (A : Option Addr) (c : Nat) (l : List Ty) (K : Option Addr) (ck : Nat) (w : World)
    (e1 : w.cell? ⟨bp, 0, none⟩ = some (.map (some bm))) (e2 : w.cell? ⟨bn, 0, none⟩ = some (.bool nx)) (e3 : w.cell? ⟨bv, 0, none⟩ = some (.slice V vs.length cv)) (l1 : bp < w.heap.size) (l2 : bn < w.heap.size) (l3 : bv < w.heap.size)
    (hown : w.ownsMap Try.prog 9 (plainElem Try.prog 3) bm nm D) (hix : Ix D vs) (hV : Vars w.heap.size w V vs) (hvl : vs.length ≤ 1000000000)
    (hok : Good t) (hR : Rep w.heap.size w A t) (hT : Tys w.heap.size w K l) (hl : l.length = t.ks.length) (hy : ∀ y, y ∈ l → TyIn y) :
    Calls Try.prog 44 #[exV t A c, .slice K l.length ck, .pointer (some ⟨bp, 0, none⟩), .pointer (some ⟨bn, 0, none⟩), .pointer (some ⟨bv, 0, none⟩)] w (TyE (nodeT vs nx t l) w) := by
  have hN := hok.node
  have hv := okN_i64 hN
  obtain ⟨W, hW⟩ : ∃ W, (w.alloc (.cells #[.int .i64 t.op, .int .i64 t.vr, .string t.nm, .slice A t.ks.length c] 24)).alloc (.cells #[.bool false, .int .i64 0, .int .i64 0] 39) = W := ⟨_, rfl⟩
  have hBW : Below w.heap.size w W := by rw [← hW]; exact Go.Proofs.Ytcdpjodnbegepaa.al (Go.Proofs.Ytcdpjodnbegepaa.al (Below.refl _ _) _) _
  have hWs : W.heap.size = w.heap.size + 1 + 1 := by rw [← hW]; simp
  have HBL : Hid (Blk W (w.heap.size + 1) 39 #[.bool false, .int .i64 0, .int .i64 0]) := Lib.hid (by
    have b2 := Blk.new (w.alloc (.cells #[.int .i64 t.op, .int .i64 t.vr, .string t.nm, .slice A t.ks.length c] 24)) 39 #[.bool false, .int .i64 0, .int .i64 0]
    have z1 : (w.alloc (.cells #[.int .i64 t.op, .int .i64 t.vr, .string t.nm, .slice A t.ks.length c] 24)).heap.size = w.heap.size + 1 := by simp
    rw [z1, hW] at b2
    exact b2)
  have HZ : Hid (∀ w1, Below W.heap.size W w1 → Blk w1 (w.heap.size + 1) 39 #[.bool false, .int .i64 0, .int .i64 0] ∧ Below w.heap.size w w1) := Lib.hid (fun w1 h => ⟨HBL.out.below h HBL.out.lt, hBW.trans (h.mono (by omega))⟩)
  by_cases o34 : t.op = 3 ∨ t.op = 4
  · have hkl : (t.nm.size : Int) ≤ 24 := by
      obtain ⟨_, _, _, _, _, h6, _⟩ := hN
      unfold lenM at h6
      rw [if_pos o34] at h6
      exact h6
    have hkey := nkey_of (m := t.nm) (by unfold maxLen; omega)
    have HOW : Hid (∀ o1 o2, ((w.alloc o1).alloc o2).ownsMap Try.prog 9 (plainElem Try.prog 3) bm nm D) := Lib.hid (fun _ _ => (hown.alloc _).alloc _)
    have HB2 : Hid (∀ o1 o2, Below w.heap.size w ((w.alloc o1).alloc o2)) := Lib.hid (fun o1 o2 => al (al (Below.refl _ _) _) _)
    obtain ⟨R, hR⟩ : ∃ R, nodeT vs nx t l = R := ⟨_, rfl⟩
    rw [hR]
    unfold nodeT at hR
    rw [if_pos o34] at hR
    unfold varT at hR
    have hq := hix.has t.nm
    have hat := hix.at_ t.nm
    have HV := Lib.hid hV
    have HWW := Lib.hid hW
    have HBW := Lib.hid hBW
    show Calls Try.prog 44 #[.agg #[.int .i64 t.op, .int .i64 t.vr, .string t.nm, .slice A t.ks.length c], .slice K l.length ck, .pointer (some ⟨bp, 0, none⟩), .pointer (some ⟨bn, 0, none⟩), .pointer (some ⟨bv, 0, none⟩)] w (TyE R w)
    generalize hm : t.nm = m at *
    generalize ho : t.op = o at *
    generalize t.vr = v at *
    generalize t.ks.length = n at *
    clear hN hv hT hl hy hok hix hown hV hW hkl hm ho hBW
    cases hi : idxN m vs with
    | none =>
      rw [hi] at hR hq
      have hR2 : (ty0, 12) = R := hR
      have hq2 : Maps.has D (nkey m) = false := hq
      rw [← hR2]
      clear hR hR2 hq hat hi
      rcases o34 with rfl | rfl
      all_goals
        go_enter Try.func44, Try.ntmps44
        go_wp2_with (at_lookup; refine wpList_lookup_own_ok_int _ rfl _ _ 68 rfl 9 3 .i64 law9 Try.underlying68 Try.underlying3 (zero3 _) bm nm D rfl (HOW.out _ _) _ _ rfl hkey ?_; intro c hat2 hwc; clear hat2 hwc)
        (refine bodyPost_ret (v := .tuple #[tyV ty0, .int .i64 12]) ?_ rfl ⟨rfl, HB2.out _ _⟩; rw [results_cell_tmp rfl]; go_simp; (try first | rfl | exact ⟨rfl, rfl, rfl⟩))
    | some i =>
      have hlt := idxN_lt hi
      have HC0 : Hid (∀ c : Int, D.atKey (nkey m) (.lit (.int .i64 0)) = .lit (.int .i64 c) → c = (i : Int)) := Lib.hid (fun c hc => by
        rw [hat i hi] at hc
        injection hc with hc
        injection hc with _ hc
        exact hc.symm)
      rw [hi] at hR hq
      have hR2 : (if o = 4 ∧ nx = false then (ty0, 24) else vspan (va vs i)) = R := hR
      have hq2 : Maps.has D (nkey m) = true := hq
      have i1 : (i : Int) < (vs.length : Int) := by omega
      obtain ⟨b, f0, rfl, hbl, hc⟩ := HV.out (by omega)
      obtain ⟨d0, d1, d2, d3⟩ := hc i hlt
      have HS := Lib.hid (fun w => pr_typeOfVar (va vs i) w)
      clear hR hq hat hi hc
      generalize va vs i = u at *
      obtain ⟨um, ub, ul, uh⟩ := u
      rcases o34 with rfl | rfl
      · rw [if_neg (by simp)] at hR2
        rw [hR2] at HS
        clear hR2
        obtain ⟨⟨Rb, Rl, Rh⟩, Re⟩ := R
        go_enter Try.func44, Try.ntmps44
        go_wp2_with (first
          | (at_lookup; refine wpList_lookup_own_ok_int _ rfl _ _ 68 rfl 9 3 .i64 law9 Try.underlying68 Try.underlying3 (zero3 _) bm nm D rfl (HOW.out _ _) _ _ rfl hkey ?_; intro c hat2 hwc; obtain rfl := HC0.out c hat2; clear hat2 hwc)
          | (go_at_call 46; rw [HWW.out]; (with_reducible refine (HS.out _).mono ?_); rintro e w1 ⟨rfl, hb1⟩; obtain ⟨g1, hbw⟩ := HZ.out _ hb1; have r0 : w1.cell? ⟨w.heap.size + 1, 0, none⟩ = _ := g1.cell 0; have r1 : w1.cell? ⟨w.heap.size + 1, 1, none⟩ = _ := g1.cell 1; have r2 : w1.cell? ⟨w.heap.size + 1, 2, none⟩ = _ := g1.cell 2; have r3 : w1.frozen? ⟨w.heap.size + 1, 0, none⟩ = false := g1.frozen 0; have r5 : w1.frozen? ⟨w.heap.size + 1, 1, none⟩ = false := g1.frozen 1; have r6 : w1.frozen? ⟨w.heap.size + 1, 2, none⟩ = false := g1.frozen 2; have r4 : w.heap.size + 1 < w1.heap.size := g1.lt; have G1 := Lib.hid g1; have HB1 := Lib.hid hbw; clear hb1 hbw g1))
        refine bodyPost_ret (res_ty rfl _ _ (w.heap.size + 1) _ _ _ rfl (((G1.out.set_ 0 _).set_ 1 _).set_ 2 _)) rfl ⟨rfl, ?_⟩
        exact below_set (below_set (below_set HB1.out (by omega) _ _) (by omega) _ _) (by omega) _ _
      · cases nx
        · rw [if_pos ⟨rfl, rfl⟩] at hR2
          rw [← hR2]
          clear hR2
          go_enter Try.func44, Try.ntmps44
          go_wp2_with (at_lookup; refine wpList_lookup_own_ok_int _ rfl _ _ 68 rfl 9 3 .i64 law9 Try.underlying68 Try.underlying3 (zero3 _) bm nm D rfl (HOW.out _ _) _ _ rfl hkey ?_; intro c hat2 hwc; obtain rfl := HC0.out c hat2; clear hat2 hwc)
          (refine bodyPost_ret (v := .tuple #[tyV ty0, .int .i64 24]) ?_ rfl ⟨rfl, HB2.out _ _⟩; rw [results_cell_tmp rfl]; go_simp; (try first | rfl | exact ⟨rfl, rfl, rfl⟩))
        · rw [if_neg (by simp)] at hR2
          rw [hR2] at HS
          clear hR2
          obtain ⟨⟨Rb, Rl, Rh⟩, Re⟩ := R
          go_enter Try.func44, Try.ntmps44
          go_wp2_with (first
            | (at_lookup; refine wpList_lookup_own_ok_int _ rfl _ _ 68 rfl 9 3 .i64 law9 Try.underlying68 Try.underlying3 (zero3 _) bm nm D rfl (HOW.out _ _) _ _ rfl hkey ?_; intro c hat2 hwc; obtain rfl := HC0.out c hat2; clear hat2 hwc)
            | (go_at_call 46; rw [HWW.out]; (with_reducible refine (HS.out _).mono ?_); rintro e w1 ⟨rfl, hb1⟩; obtain ⟨g1, hbw⟩ := HZ.out _ hb1; have r0 : w1.cell? ⟨w.heap.size + 1, 0, none⟩ = _ := g1.cell 0; have r1 : w1.cell? ⟨w.heap.size + 1, 1, none⟩ = _ := g1.cell 1; have r2 : w1.cell? ⟨w.heap.size + 1, 2, none⟩ = _ := g1.cell 2; have r3 : w1.frozen? ⟨w.heap.size + 1, 0, none⟩ = false := g1.frozen 0; have r5 : w1.frozen? ⟨w.heap.size + 1, 1, none⟩ = false := g1.frozen 1; have r6 : w1.frozen? ⟨w.heap.size + 1, 2, none⟩ = false := g1.frozen 2; have r4 : w.heap.size + 1 < w1.heap.size := g1.lt; have G1 := Lib.hid g1; have HB1 := Lib.hid hbw; clear hb1 hbw g1))
          refine bodyPost_ret (res_ty rfl _ _ (w.heap.size + 1) _ _ _ rfl (((G1.out.set_ 0 _).set_ 1 _).set_ 2 _)) rfl ⟨rfl, ?_⟩
          exact below_set (below_set (below_set HB1.out (by omega) _ _) (by omega) _ _) (by omega) _ _
  · have HC : Hid (Calls Try.prog 45 #[exV t A c, .slice K l.length ck] W (TyE (tyOf t l) W)) := Lib.hid (pr_typeOf t A c l K ck W (hR.step hBW) (hT.step hBW) (fits_of hN hl) (by
        have := hN.2.2.2.2.2.2.2
        unfold kidM at this
        rw [hl]
        (repeat' split at this) <;> omega) (fun i hi => hy _ (by unfold ty; simp [List.getD, List.getElem?_eq_getElem hi])) (by unfold I64; omega) (by
        by_cases h1 : 1 < t.ks.length
        · have := okN_i64 (hok.kid (kd_mem h1)).node
          unfold I64; omega
        · have : kd t.ks 1 = ex0 := by unfold kd; simp [List.getD, List.getElem?_eq_none (by omega : t.ks.length ≤ 1)]
          rw [this]; show I64 0; unfold I64; omega))
    have X : Hid (nodeT vs nx t l = tyOf t l) := Lib.hid (by unfold nodeT; rw [if_neg o34])
    rw [X.out]
    obtain ⟨R, hRs⟩ : ∃ R, tyOf t l = R := ⟨_, rfl⟩
    rw [hRs] at HC ⊢
    have q3 : (t.op != 3) = true := by simp; omega
    have q4 : (t.op != 4) = true := by simp; omega
    have HWW := Lib.hid hW
    clear hRs X hN hv hT hl hy hok hix hown hV hR hW hBW o34 e1 e2 e3
    show Calls Try.prog 44 #[.agg #[.int .i64 t.op, .int .i64 t.vr, .string t.nm, .slice A t.ks.length c], .slice K l.length ck, .pointer (some ⟨bp, 0, none⟩), .pointer (some ⟨bn, 0, none⟩), .pointer (some ⟨bv, 0, none⟩)] w (TyE R w)
    obtain ⟨⟨Rb, Rl, Rh⟩, Re⟩ := R
    go_enter Try.func44, Try.ntmps44
    go_wp2_with (go_at_call 45; rw [HWW.out]; (with_reducible refine HC.out.mono ?_); rintro e w1 ⟨rfl, hb1⟩; obtain ⟨g1, hbw⟩ := HZ.out _ hb1; have r0 : w1.cell? ⟨w.heap.size + 1, 0, none⟩ = _ := g1.cell 0; have r1 : w1.cell? ⟨w.heap.size + 1, 1, none⟩ = _ := g1.cell 1; have r2 : w1.cell? ⟨w.heap.size + 1, 2, none⟩ = _ := g1.cell 2; have r3 : w1.frozen? ⟨w.heap.size + 1, 0, none⟩ = false := g1.frozen 0; have r5 : w1.frozen? ⟨w.heap.size + 1, 1, none⟩ = false := g1.frozen 1; have r6 : w1.frozen? ⟨w.heap.size + 1, 2, none⟩ = false := g1.frozen 2; have r4 : w.heap.size + 1 < w1.heap.size := g1.lt; have G1 := Lib.hid g1; have HB1 := Lib.hid hbw; clear hb1 hbw g1)
    refine bodyPost_ret (res_ty rfl _ _ (w.heap.size + 1) _ _ _ rfl (((G1.out.set_ 0 _).set_ 1 _).set_ 2 _)) rfl ⟨rfl, ?_⟩
    exact below_set (below_set (below_set HB1.out (by omega) _ _) (by omega) _ _) (by omega) _ _
end Go.Proofs.Ytcdpjodnbegepaa
