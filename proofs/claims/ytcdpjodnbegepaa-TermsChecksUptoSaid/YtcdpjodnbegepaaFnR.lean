/- The contract of Eval$1, of layer 30 (terms). -/
import Derived.Test.YtcdpjodnbegepaaFnQ
namespace Go.Proofs.Ytcdpjodnbegepaa
open Go.RowKit Go.Maps

/-- The value of a node, from the values of its Kids. -/
def valN (vs : List Vr) (s n : List Int) (t : Ex) (l : List Int) : Int × Int :=
  if (if t.op = 4 then n else s).length ≠ vs.length then (0, 21)
  else if t.op = 3 ∨ t.op = 4 then (match idxN t.nm vs with | some i => vvS (va vs i) (li (if t.op = 4 then n else s) i) | none => (0, 0))
  else if t.op = 17 then (modS (li l 0) (li l 1), 0) else valS t.op t.vr l
theorem kids_of {t : Ex} {l : List Int} (h : okN t.op t.vr t.nm.size t.ks.length) (hl : l.length = t.ks.length) (h3 : t.op ≠ 3) (h4 : t.op ≠ 4) :
    (t.op ≠ 1 → t.op ≠ 2 → 0 < l.length) ∧ (t.op ≠ 1 → t.op ≠ 2 → t.op ≠ 5 → t.op ≠ 6 → t.op ≠ 7 → 1 < l.length) ∧ (t.op = 18 → l.length = 3) ∧ (t.op = 17 → l.length = 2) ∧ l.length ≤ 64 := by
  obtain ⟨_, _, _, _, _, _, h1, h2⟩ := h
  unfold kidL at h1
  unfold kidM at h2
  rw [hl]
  refine ⟨fun a b => ?_, fun a b c d e => ?_, fun a => ?_, fun a => ?_, ?_⟩
  · (repeat' split at h1) <;> omega
  · (repeat' split at h1) <;> omega
  · (repeat' split at h1) <;> (repeat' split at h2) <;> omega
  · (repeat' split at h1) <;> (repeat' split at h2) <;> omega
  · (repeat' split at h2) <;> omega
set_option maxRecDepth 100000 in
set_option maxHeartbeats 4000000 in
/-- A variable's value is looked up. -/
theorem pr_Eval1v (vs : List Vr) (s n : List Int) (D : DataW Unit) (bs bn bv bp bm nm : Nat) (V Sa Na : Option Addr) (cv cs cn : Nat) (t : Ex) (A : Option Addr) (c : Nat) (K : Value) (w : World)
    (e2 : w.cell? ⟨bs, 0, none⟩ = some (.slice Sa s.length cs)) (e3 : w.cell? ⟨bn, 0, none⟩ = some (.slice Na n.length cn)) (e4 : w.cell? ⟨bv, 0, none⟩ = some (.slice V vs.length cv)) (e5 : w.cell? ⟨bp, 0, none⟩ = some (.map (some bm)))
    (l2 : bs < w.heap.size) (l3 : bn < w.heap.size) (l4 : bv < w.heap.size) (l5 : bp < w.heap.size)
    (hown : w.ownsMap Try.prog 9 (plainElem Try.prog 3) bm nm D) (hix : Ix D vs) (hV : Vars w.heap.size w V vs) (hvl : vs.length ≤ 1000000000)
    (hS : RI w w.heap.size Sa s) (hNn : RI w w.heap.size Na n) (hss : s.length = vs.length) (hi64 : ∀ i, I64 (li s i)) (hn64 : ∀ i, I64 (li n i)) (hnm : t.nm.size ≤ 24) (i : Nat) (hi : idxN t.nm vs = some i) (o34 : t.op = 3 ∨ t.op = 4 ∧ n.length = vs.length) :
    Calls Try.prog 49 #[exV t A c, K, .pointer (some ⟨bs, 0, none⟩), .pointer (some ⟨bn, 0, none⟩), .pointer (some ⟨bv, 0, none⟩), .pointer (some ⟨bp, 0, none⟩)] w (Two (vvS (va vs i) (li (if t.op = 4 then n else s) i)) w) := by
  have hlt := idxN_lt hi
  have hkey := nkey_of (m := t.nm) (by unfold maxLen; omega)
  have hat := hix.at_ t.nm
  have HC0 : Hid (∀ c : Int, D.atKey (nkey t.nm) (.lit (.int .i64 0)) = .lit (.int .i64 c) → c = (i : Int)) := Lib.hid (fun c hc => by
    rw [hat i hi] at hc
    injection hc with hc
    injection hc with _ hc
    exact hc.symm)
  obtain ⟨W, hW⟩ : ∃ W, w.alloc (.cells #[.int .i64 t.op, .int .i64 t.vr, .string t.nm, .slice A t.ks.length c] 24) = W := ⟨_, rfl⟩
  have HWW := Lib.hid hW
  have hBW : Below w.heap.size w W := by rw [← hW]; exact al (Below.refl _ _) _
  have hWs : W.heap.size = w.heap.size + 1 := by rw [← hW]; simp
  have hk := Blk.new w 24 #[.int .i64 t.op, .int .i64 t.vr, .string t.nm, .slice A t.ks.length c]
  rw [hW] at hk
  have q0 : W.cell? ⟨w.heap.size, 0, none⟩ = some (.int .i64 t.op) := hk.cell 0
  have q1 : W.cell? ⟨w.heap.size, 1, none⟩ = some (.int .i64 t.vr) := hk.cell 1
  have q2 : W.cell? ⟨w.heap.size, 2, none⟩ = some (.string t.nm) := hk.cell 2
  have q3 : W.cell? ⟨w.heap.size, 3, none⟩ = some (.slice A t.ks.length c) := hk.cell 3
  have f2 := (hBW.cell (p := ⟨bs, 0, none⟩) l2).trans e2
  have f3 := (hBW.cell (p := ⟨bn, 0, none⟩) l3).trans e3
  have f4 := (hBW.cell (p := ⟨bv, 0, none⟩) l4).trans e4
  have f5 := (hBW.cell (p := ⟨bp, 0, none⟩) l5).trans e5
  have HOW : Hid (W.ownsMap Try.prog 9 (plainElem Try.prog 3) bm nm D) := Lib.hid (own_below hown hBW)
  have i1 : (i : Int) < (vs.length : Int) := by omega
  obtain ⟨b, f0, rfl, hbl, hc⟩ := hV (by omega)
  obtain ⟨c0, c1, c2, c3⟩ := hc i hlt
  have d0 := (hBW.cell (p := ⟨b, f0 + i * 4, none⟩) hbl).trans c0
  have d1 := (hBW.cell (p := ⟨b, f0 + i * 4 + 1, none⟩) hbl).trans c1
  have d2 := (hBW.cell (p := ⟨b, f0 + i * 4 + 2, none⟩) hbl).trans c2
  have d3 := (hBW.cell (p := ⟨b, f0 + i * 4 + 3, none⟩) hbl).trans c3
  have HBW := Lib.hid hBW
  have hbl2 : b < W.heap.size := by omega
  have l4' : bv < W.heap.size := by omega
  rcases o34 with o3 | ⟨o4, hnn⟩
  · obtain ⟨b2, f2', rfl, hb2, hcs⟩ := hS (by omega)
    have g0 := (hBW.cell (p := ⟨b2, f2' + i, none⟩) hb2).trans (hcs i (by omega))
    have hb22 : b2 < W.heap.size := by omega
    have HV := Lib.hid (fun w => pr_valueOfVar (va vs i) (li s i) w (hi64 i))
    rw [if_neg (by omega)]
    obtain ⟨R, hR⟩ : ∃ R, vvS (va vs i) (li s i) = R := ⟨_, rfl⟩
    rw [hR] at HV ⊢
    obtain ⟨Rl, Re⟩ := R
    rw [hss] at f2
    show Calls Try.prog 49 #[.agg #[.int .i64 t.op, .int .i64 t.vr, .string t.nm, .slice A t.ks.length c], K, .pointer (some ⟨bs, 0, none⟩), .pointer (some ⟨bn, 0, none⟩), .pointer (some ⟨bv, 0, none⟩), .pointer (some ⟨bp, 0, none⟩)] w _
    rw [o3] at q0 hW HWW ⊢
    have HWX := Lib.hid hW
    generalize t.nm = m at *
    generalize t.vr = tv at *
    generalize t.ks.length = tn at *
    generalize va vs i = u at *
    obtain ⟨um, ub, ul, uh⟩ := u
    generalize li s i = x at *
    clear hR hown hix hV hS hNn hss hi64 hn64 hnm hi hat hW hc c0 c1 c2 c3 hcs hBW hk e2 e3 e4 e5 HWW
    go_enter Try.func49, Try.ntmps49
    go_upto_region 1 with (go_at_call 999)
    rw [HWX.out]
    go_wp2_with (at_lookup; refine wpList_lookup_own_int _ rfl _ _ 68 rfl 9 3 .i64 law9 Try.underlying68 Try.underlying3 (zero3 _) bm nm D rfl HOW.out _ _ rfl hkey ?_; intro c hat2 hwc; obtain rfl := HC0.out c hat2; clear hat2 hwc)
    go_region_held3 (fun wx => wx.cell? ⟨bv, 0, none⟩ = some (.slice (some ⟨b, f0, none⟩) vs.length cv) ∧ wx.cell? ⟨b, f0 + i * 4, none⟩ = some (.string um) ∧ wx.cell? ⟨b, f0 + i * 4 + 1, none⟩ = some (.bool ub) ∧ wx.cell? ⟨b, f0 + i * 4 + 2, none⟩ = some (.int .i64 ul) ∧ wx.cell? ⟨b, f0 + i * 4 + 3, none⟩ = some (.int .i64 uh) ∧ wx.cell? ⟨b2, f2' + i, none⟩ = some (.int .i64 x)) (first | with_reducible exact ⟨r0, r1, r2, r3, r4, r5⟩ | exact ⟨f4, d0, d1, d2, d3, g0⟩ | go_keep) (first
      | (go_at_call 50; (with_reducible refine (HV.out _).mono ?_); rintro e w2 ⟨rfl, hb3⟩; have hbx : Below W.heap.size W w2 := Below.trans ((Below.refl _ _).drew) hb3; have r0 := (hbx.cell (p := ⟨bv, 0, none⟩) l4').trans f4; have r1 := (hbx.cell (p := ⟨b, f0 + i * 4, none⟩) hbl2).trans d0; have r2 := (hbx.cell (p := ⟨b, f0 + i * 4 + 1, none⟩) hbl2).trans d1; have r3 := (hbx.cell (p := ⟨b, f0 + i * 4 + 2, none⟩) hbl2).trans d2; have r4 := (hbx.cell (p := ⟨b, f0 + i * 4 + 3, none⟩) hbl2).trans d3; have r5 := (hbx.cell (p := ⟨b2, f2' + i, none⟩) hb22).trans g0; have HB3 := Lib.hid (HBW.out.trans (hbx.mono (by omega))); clear hb3 hbx))
    all_goals
      go_wp2
      go_ret2
      exact ⟨rfl, HB3.out⟩
  · obtain ⟨b2, f2', rfl, hb2, hcs⟩ := hNn (by omega)
    have g0 := (hBW.cell (p := ⟨b2, f2' + i, none⟩) hb2).trans (hcs i (by omega))
    have hb22 : b2 < W.heap.size := by omega
    have HV := Lib.hid (fun w => pr_valueOfVar (va vs i) (li n i) w (hn64 i))
    rw [if_pos o4]
    obtain ⟨R, hR⟩ : ∃ R, vvS (va vs i) (li n i) = R := ⟨_, rfl⟩
    rw [hR] at HV ⊢
    obtain ⟨Rl, Re⟩ := R
    rw [hnn] at f3
    show Calls Try.prog 49 #[.agg #[.int .i64 t.op, .int .i64 t.vr, .string t.nm, .slice A t.ks.length c], K, .pointer (some ⟨bs, 0, none⟩), .pointer (some ⟨bn, 0, none⟩), .pointer (some ⟨bv, 0, none⟩), .pointer (some ⟨bp, 0, none⟩)] w _
    rw [o4] at q0 hW HWW ⊢
    have HWX := Lib.hid hW
    generalize t.nm = m at *
    generalize t.vr = tv at *
    generalize t.ks.length = tn at *
    generalize va vs i = u at *
    obtain ⟨um, ub, ul, uh⟩ := u
    generalize li n i = x at *
    clear hR hown hix hV hS hNn hss hi64 hn64 hnm hi hat hW hc c0 c1 c2 c3 hcs hBW hk e2 e3 e4 e5 HWW hnn
    go_enter Try.func49, Try.ntmps49
    go_upto_region 1 with (go_at_call 999)
    rw [HWX.out]
    go_wp2_with (at_lookup; refine wpList_lookup_own_int _ rfl _ _ 68 rfl 9 3 .i64 law9 Try.underlying68 Try.underlying3 (zero3 _) bm nm D rfl HOW.out _ _ rfl hkey ?_; intro c hat2 hwc; obtain rfl := HC0.out c hat2; clear hat2 hwc)
    go_region_held3 (fun wx => wx.cell? ⟨bv, 0, none⟩ = some (.slice (some ⟨b, f0, none⟩) vs.length cv) ∧ wx.cell? ⟨b, f0 + i * 4, none⟩ = some (.string um) ∧ wx.cell? ⟨b, f0 + i * 4 + 1, none⟩ = some (.bool ub) ∧ wx.cell? ⟨b, f0 + i * 4 + 2, none⟩ = some (.int .i64 ul) ∧ wx.cell? ⟨b, f0 + i * 4 + 3, none⟩ = some (.int .i64 uh) ∧ wx.cell? ⟨b2, f2' + i, none⟩ = some (.int .i64 x)) (first | with_reducible exact ⟨r0, r1, r2, r3, r4, r5⟩ | exact ⟨f4, d0, d1, d2, d3, g0⟩ | go_keep) (first
      | (go_at_call 50; (with_reducible refine (HV.out _).mono ?_); rintro e w2 ⟨rfl, hb3⟩; have hbx : Below W.heap.size W w2 := Below.trans ((Below.refl _ _).drew) hb3; have r0 := (hbx.cell (p := ⟨bv, 0, none⟩) l4').trans f4; have r1 := (hbx.cell (p := ⟨b, f0 + i * 4, none⟩) hbl2).trans d0; have r2 := (hbx.cell (p := ⟨b, f0 + i * 4 + 1, none⟩) hbl2).trans d1; have r3 := (hbx.cell (p := ⟨b, f0 + i * 4 + 2, none⟩) hbl2).trans d2; have r4 := (hbx.cell (p := ⟨b, f0 + i * 4 + 3, none⟩) hbl2).trans d3; have r5 := (hbx.cell (p := ⟨b2, f2' + i, none⟩) hb22).trans g0; have HB3 := Lib.hid (HBW.out.trans (hbx.mono (by omega))); clear hb3 hbx))
    all_goals
      go_wp2
      go_ret2
      exact ⟨rfl, HB3.out⟩
set_option maxRecDepth 100000 in
set_option maxHeartbeats 4000000 in
/-- A node that is no variable, or whose state does not fit. -/
theorem pr_Eval1n (vs : List Vr) (s n l : List Int) (bs bn bv bp : Nat) (V Sa Na : Option Addr) (cv cs cn : Nat) (t : Ex) (A : Option Addr) (c : Nat) (K : Option Addr) (ck : Nat) (w : World)
    (e2 : w.cell? ⟨bs, 0, none⟩ = some (.slice Sa s.length cs)) (e3 : w.cell? ⟨bn, 0, none⟩ = some (.slice Na n.length cn)) (e4 : w.cell? ⟨bv, 0, none⟩ = some (.slice V vs.length cv))
    (l2 : bs < w.heap.size) (l3 : bn < w.heap.size) (l4 : bv < w.heap.size) (hss : s.length = vs.length)
    (hT : RI w w.heap.size K l) (hl : l.length = t.ks.length) (hok : okN t.op t.vr t.nm.size t.ks.length) (hI : ∀ i, i < l.length → I64 (li l i)) (h17 : t.op = 17 → 0 < li l 1 ∧ li l 1 ≤ 1000000000) (h3 : t.op ≠ 3) (h4 : t.op = 4 → n.length ≠ vs.length) :
    Calls Try.prog 49 #[exV t A c, .slice K l.length ck, .pointer (some ⟨bs, 0, none⟩), .pointer (some ⟨bn, 0, none⟩), .pointer (some ⟨bv, 0, none⟩), .pointer (some ⟨bp, 0, none⟩)] w (Two (valN vs s n t l) w) := by
  have HB : Hid (∀ ob, Below w.heap.size w (w.alloc ob)) := Lib.hid (fun ob => (Below.refl _ _).alloc (Nat.le_refl _) ob)
  by_cases o4 : t.op = 4
  · have X : Hid (valN vs s n t l = (0, 21)) := Lib.hid (by unfold valN; rw [if_pos o4, if_pos (h4 o4)])
    have hne := h4 o4
    rw [X.out]
    have g1 : ((n.length : Int) == (vs.length : Int)) = false := by simp; omega
    have g2 : ((n.length : Int) != (vs.length : Int)) = true := by simp; omega
    show Calls Try.prog 49 #[.agg #[.int .i64 t.op, .int .i64 t.vr, .string t.nm, .slice A t.ks.length c], .slice K l.length ck, .pointer (some ⟨bs, 0, none⟩), .pointer (some ⟨bn, 0, none⟩), .pointer (some ⟨bv, 0, none⟩), .pointer (some ⟨bp, 0, none⟩)] w _
    rw [o4]
    clear hT hl hok hI h17 h3 h4 o4 hne hss
    generalize s.length = sl at *
    generalize n.length = nl at *
    generalize vs.length = vl at *
    go_enter Try.func49, Try.ntmps49
    go_wp2
    go_ret2
    exact ⟨rfl, HB.out _⟩
  · have hk := kids_of hok hl h3 o4
    have HC : Hid (∀ ob, Calls Try.prog 51 #[exV t A c, .slice K l.length ck] (w.alloc ob) fun e w' => e = .returned (.tuple #[.int .i64 (valN vs s n t l).1, .int .i64 (valN vs s n t l).2]) ∧ Below (w.alloc ob).heap.size (w.alloc ob) w') := Lib.hid (fun ob => by
      by_cases o17 : t.op = 17
      · have e : valN vs s n t l = (modS (li l 0) (li l 1), 0) := by unfold valN; rw [if_neg o4, if_neg (by omega), if_neg (by omega), if_pos o17]
        rw [e]
        exact pr_valueMod t A c l K ck _ (hT.step (HB.out ob)) o17 (hk.2.2.2.1 o17) (h17 o17).1 (h17 o17).2
      · have e : valN vs s n t l = valS t.op t.vr l := by unfold valN; rw [if_neg o4, if_neg (by omega), if_neg (by omega), if_neg o17]
        rw [e]
        exact pr_valueOf t A c l K ck _ (hT.step (HB.out ob)) (by omega) hk.1 hk.2.1 hk.2.2.1 hI o17)
    obtain ⟨R, hR⟩ : ∃ R, valN vs s n t l = R := ⟨_, rfl⟩
    rw [hR] at HC ⊢
    obtain ⟨Rl, Re⟩ := R
    have g3 : (t.op == 3) = false := by simp [h3]
    have g4 : (t.op == 4) = false := by simp [o4]
    rw [hss] at e2
    clear hR hT hl hok hI h17 h3 h4 hk hss o4
    generalize vs.length = vl at *
    generalize n.length = nl at *
    show Calls Try.prog 49 #[.agg #[.int .i64 t.op, .int .i64 t.vr, .string t.nm, .slice A t.ks.length c], .slice K l.length ck, .pointer (some ⟨bs, 0, none⟩), .pointer (some ⟨bn, 0, none⟩), .pointer (some ⟨bv, 0, none⟩), .pointer (some ⟨bp, 0, none⟩)] w _
    go_enter Try.func49, Try.ntmps49
    go_wp2_with (go_at_call 51; (with_reducible refine (HC.out _).mono ?_); rintro e w2 ⟨rfl, hb3⟩; have HB3 := Lib.hid ((HB.out _).trans (hb3.mono (HB.out _).size)); clear hb3)
    go_ret2
    exact ⟨rfl, HB3.out⟩
end Go.Proofs.Ytcdpjodnbegepaa
