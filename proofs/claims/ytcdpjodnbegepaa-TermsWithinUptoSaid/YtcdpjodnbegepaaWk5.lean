/- TermsWithin's walk; layer 30 (terms). -/
import Derived.Test.YtcdpjodnbegepaaVw
import Derived.Test.YtcdpjodnbegepaaVd
import Derived.Test.YtcdpjodnbegepaaPt5
import Derived.Test.YtcdpjodnbegepaaFnW
import Derived.Deep.RegionHeld3
namespace Go.Proofs.Ytcdpjodnbegepaa
open Go.RowKit

theorem wi_pos (t : Ex) : 1 ≤ t.sz := by have := sz_eq t; omega
mutual
theorem wi_putE (m : ByteArray) (x : Ex) : ∀ t : Ex, (putE m x t).sz ≤ t.sz * x.sz
  | .mk o v nm ks => by
    have h1 := wi_pos x
    have h2 := wi_putL m x ks
    have e1 := sz_eq (.mk o v nm ks)
    have e3 : (Ex.mk o v nm ks).ks = ks := rfl
    rw [e3] at e1
    rw [putE_eq, e1, Nat.add_mul, Nat.one_mul]
    split
    · exact Nat.le_add_right _ _
    · have e2 := sz_eq (.mk (Ex.mk o v nm ks).op (Ex.mk o v nm ks).vr (Ex.mk o v nm ks).nm (putL m x (Ex.mk o v nm ks).ks))
      have e4 : (Ex.mk (Ex.mk o v nm ks).op (Ex.mk o v nm ks).vr (Ex.mk o v nm ks).nm (putL m x (Ex.mk o v nm ks).ks)).ks = putL m x ks := rfl
      rw [e4] at e2
      omega
theorem wi_putL (m : ByteArray) (x : Ex) : ∀ l : List Ex, szL (putL m x l) ≤ szL l * x.sz
  | [] => Nat.zero_le _
  | t :: r => by
    have h1 := wi_putE m x t
    have h2 := wi_putL m x r
    show (putE m x t).sz + szL (putL m x r) ≤ (t.sz + szL r) * x.sz
    rw [Nat.add_mul]
    omega
end
theorem wi_light {t : Ex} (h : lightS t = true) : t.sz ≤ 300 := by
  unfold lightS at h
  simp only [Bool.and_eq_true, decide_eq_true_eq] at h
  exact h.1
/-- What the laws over a term have when they begin: the box of the term. -/
theorem wi_box (t : Ex) (A : Option Addr) (c : Nat) (w : World) (hR : Rep w.heap.size w A t) : ∀ w1, Below (w.heap.size + 1) (w.alloc (.cells #[.int .i64 t.op, .int .i64 t.vr, .string t.nm, .slice A t.ks.length c] 24)) w1 → (w1.cell? ⟨w.heap.size, 0, none⟩ = some (.int .i64 t.op) ∧ w1.cell? ⟨w.heap.size, 1, none⟩ = some (.int .i64 t.vr) ∧ w1.cell? ⟨w.heap.size, 2, none⟩ = some (.string t.nm) ∧ w1.cell? ⟨w.heap.size, 3, none⟩ = some (.slice A t.ks.length c)) ∧ Rep w1.heap.size w1 A t ∧ Below w.heap.size w w1 ∧ w.heap.size < w1.heap.size := fun w1 hb => by
  have hk := (Blk.new w 24 #[.int .i64 t.op, .int .i64 t.vr, .string t.nm, .slice A t.ks.length c]).below hb (by omega)
  have h0 : Below w.heap.size w (w.alloc (.cells #[.int .i64 t.op, .int .i64 t.vr, .string t.nm, .slice A t.ks.length c] 24)) := al (Below.refl _ _) _
  have hb2 : Below w.heap.size w w1 := h0.trans (hb.mono (by omega))
  have := hb.size
  exact ⟨⟨hk.cell 0, hk.cell 1, hk.cell 2, hk.cell 3⟩, hR.step hb2, hb2, by simp at this; omega⟩
theorem wi_no {vs : List Vr} {t : Ex} {s n : List Int} (h : ¬ ((typS vs true t).2 = 0 ∧ s.length = vs.length)) : evS vs t s n = (0, false) := if_neg h
theorem idxN_none {m : ByteArray} : ∀ {l : List Vr}, idxN m l = none → ∀ j, j < l.length → ((va l j).nm.toList == m.toList) = false
  | [], _, j, h => by simp at h
  | v :: r, e, j, h => by
    unfold idxN at e
    split at e
    · cases e
    · rename_i g
      cases hk : idxN m r with
      | some i => rw [hk] at e; cases e
      | none =>
        cases j with
        | zero => simpa [va] using g
        | succ j => have := idxN_none hk j (by simpa using h); simpa [va] using this
theorem idxN_at {m : ByteArray} : ∀ {l : List Vr} {j : Nat}, idxN m l = some j → ((va l j).nm.toList == m.toList) = true
  | [], j, h => by cases h
  | v :: r, j, h => by
    unfold idxN at h
    split at h
    · rename_i g
      cases h
      exact g
    · cases hk : idxN m r with
      | none => rw [hk] at h; cases h
      | some i =>
        rw [hk] at h
        cases h
        have := idxN_at hk
        simpa [va] using this
theorem idxN_self {l : List Vr} {i : Nat} (h : i < l.length) : ∃ j, idxN (va l i).nm l = some j ∧ j < l.length := by
  cases e : idxN (va l i).nm l with
  | none => have := idxN_none e i h; simp at this
  | some j => exact ⟨j, rfl, idxN_lt e⟩
set_option maxRecDepth 100000 in
set_option maxHeartbeats 8000000 in
theorem termsWithin_walk (vs : List Vr) (V : Option Addr) (cv : Nat) (t : Ex) (A : Option Addr) (c : Nat) (s : List Int) (Sa : Option Addr) (cs : Nat) (n : List Int) (Na : Option Addr) (cn : Nat) (k : Int) (w : World) (hV : Vars w.heap.size w V vs) (hvl : vs.length ≤ 1000000000) (hvn : ∀ i, i < vs.length → (va vs i).nm.size ≤ maxLen) (hR : Rep w.heap.size w A t) (hs : t.sz ≤ 100000000)
    (hS : RI w w.heap.size Sa s) (hi64 : ∀ i, I64 (li s i)) (hN : RI w w.heap.size Na n) (hn64 : ∀ i, I64 (li n i)) (hk0 : (Lit.int IntKind.u8 k).wf = true) :
    Calls Try.prog 8 #[.slice V vs.length cv, exV t A c, .slice Sa s.length cs, .slice Na n.length cn, .int .u8 k] w (RetT w) := by
  have hk : 0 ≤ k ∧ k < 256 := by
    have hb := bounds_u8 hk0
    omega
  clear hk0
  obtain ⟨W, hW⟩ : ∃ W, w.alloc (.cells #[.int .i64 t.op, .int .i64 t.vr, .string t.nm, .slice A t.ks.length c] 24) = W := ⟨_, rfl⟩
  have hX := wi_box t A c w hR
  rw [hW] at hX
  have hWs : W.heap.size = w.heap.size + 1 := by rw [← hW]; simp
  rw [← hWs] at hX
  have HX := Lib.hid hX
  obtain ⟨⟨q0, q1, q2, q3⟩, hR0, hB0, ql⟩ := hX W (Below.refl _ _)
  have HLT : Hid (Calls Try.prog 9 #[exV t A c] W fun e w' => e = .returned (.bool (lightS t)) ∧ Below W.heap.size W w') := Lib.hid (lw_Light t A c W hs hR0)
  have HFW := Lib.hid (fun w => lw_few vs.length V cv w)
  have HLV := Lib.hid law_lives
  have HRS : Hid (∀ w1, Below W.heap.size W w1 → Calls Try.prog 28 #[.slice V vs.length cv, .slice Sa s.length cs] w1 fun e w' => e = .returned (.bool (rgB vs s)) ∧ Below w1.heap.size w1 w') := Lib.hid (fun w1 hb => by
    obtain ⟨_, h1, h2, _⟩ := hX w1 hb
    exact lw_ranged vs V cv s Sa cs w1 (hV.step h2) hvl (hS.step h2))
  have HRN : Hid (∀ w1, Below W.heap.size W w1 → Calls Try.prog 28 #[.slice V vs.length cv, .slice Na n.length cn] w1 fun e w' => e = .returned (.bool (rgB vs n)) ∧ Below w1.heap.size w1 w') := Lib.hid (fun w1 hb => by
    obtain ⟨_, h1, h2, _⟩ := hX w1 hb
    exact lw_ranged vs V cv n Na cn w1 (hV.step h2) hvl (hN.step h2))
  have HGS : Hid (rgB vs s = true → RgS vs s) := Lib.hid rgB_iff
  have HGN : Hid (rgB vs n = true → RgS vs n) := Lib.hid rgB_iff
  have HT : Hid (∀ (u : Ex) (A : Option Addr) (c : Nat) w1, Below W.heap.size W w1 → Rep w1.heap.size w1 A u → u.sz ≤ 100000000 → Calls Try.prog 20 #[.slice V vs.length cv, exV u A c, .bool true] w1 (TyE (typS vs true u) w1)) := Lib.hid (fun u A c w1 hb hr hz => by
    obtain ⟨_, _, h2, _⟩ := hX w1 hb
    exact pr_Type vs V cv u A c true w1 (hV.step h2) hvl hvn hr hz)
  have HE : Hid (∀ (u : Ex) (A : Option Addr) (c : Nat) w1, Below W.heap.size W w1 → Rep w1.heap.size w1 A u → u.sz ≤ 100000000 → Calls Try.prog 22 #[.slice V vs.length cv, exV u A c, .slice Sa s.length cs, .slice Na n.length cn] w1 fun e w' => e = .returned (.tuple #[.int .i64 (evS vs u s n).1, .bool (evS vs u s n).2]) ∧ Below w1.heap.size w1 w') := Lib.hid (fun u A c w1 hb hr hz => by
    obtain ⟨_, _, h2, _⟩ := hX w1 hb
    exact pr_Eval vs V cv u A c s n Sa Na cs cn w1 (hV.step h2) hvl hvn hr hz (hS.step h2) (hN.step h2) hi64 hn64)
  have HIX : Hid (∀ w1, Below W.heap.size W w1 → ∀ m, Calls Try.prog 29 #[.slice V vs.length cv, .string m] w1 fun e w' => e = .returned (.int .i64 (idxI m vs)) ∧ w1 = w') := Lib.hid (fun w1 hb m => by
    obtain ⟨_, _, h2, _⟩ := hX w1 hb
    exact rf_Index vs V cv m w1 (hV.step h2) hvl)
  have HRW : Hid (∀ w1, Below W.heap.size W w1 → Rep w1.heap.size w1 A t) := Lib.hid (fun w1 hb => (hX w1 hb).2.1)
  have HVW : Hid (∀ w1, Below W.heap.size W w1 → Vars w1.heap.size w1 V vs) := Lib.hid (fun w1 hb => hV.step (hX w1 hb).2.2.1)
  have HSW : Hid (∀ w1, Below W.heap.size W w1 → RI w1 w1.heap.size Sa s) := Lib.hid (fun w1 hb => hS.step (hX w1 hb).2.2.1)
  have HT0 : Hid (∀ w1, Below W.heap.size W w1 → Calls Try.prog 20 #[.slice V vs.length cv, exV t A c, .bool true] w1 (TyE (typS vs true t) w1)) := Lib.hid (fun w1 hb => HT.out t A c w1 hb (HRW.out w1 hb) hs)
  have HE0 : Hid (∀ w1, Below W.heap.size W w1 → Calls Try.prog 22 #[.slice V vs.length cv, exV t A c, .slice Sa s.length cs, .slice Na n.length cn] w1 fun e w' => e = .returned (.tuple #[.int .i64 (evS vs t s n).1, .bool (evS vs t s n).2]) ∧ Below w1.heap.size w1 w') := Lib.hid (fun w1 hb => HE.out t A c w1 hb (HRW.out w1 hb) hs)
  have HWW := Lib.hid hW
  have HSZ : Hid (lightS t = true → t.sz ≤ 300) := Lib.hid wi_light
  show Calls Try.prog 8 #[.slice V vs.length cv, .agg #[.int .i64 t.op, .int .i64 t.vr, .string t.nm, .slice A t.ks.length c], .slice Sa s.length cs, .slice Na n.length cn, .int .u8 k] w _
  clear hX hW hV hvn hR hs hS hN hi64 hn64 hWs hR0 hB0
  obtain ⟨lt, hlt⟩ : ∃ lt, lightS t = lt := ⟨_, rfl⟩
  rw [hlt] at HLT HSZ
  clear hlt
  obtain ⟨fw, hfw⟩ : ∃ fw, decide (vs.length ≤ 20) = fw := ⟨_, rfl⟩
  rw [hfw] at HFW
  have HFL := Lib.hid hfw
  clear hfw
  obtain ⟨rs, hrs⟩ : ∃ rs, rgB vs s = rs := ⟨_, rfl⟩
  rw [hrs] at HRS HGS
  clear hrs
  obtain ⟨rn, hrn⟩ : ∃ rn, rgB vs n = rn := ⟨_, rfl⟩
  rw [hrn] at HRN HGN
  clear hrn
  cases lt
  · go_enter Try.func8, Try.ntmps8
    go_upto_region 1 with (go_at_call 999)
    rw [HWW.out]
    go_wp2_with (first
      | (go_at_call 10; (with_reducible refine (HLV.out _).mono ?_); rintro e w2 ⟨rfl, hb2⟩; have HB2 := Lib.hid (bt HB1.out hb2); clear hb2)
      | (go_at_call 9; (with_reducible refine HLT.out.mono ?_); rintro e w1 ⟨rfl, hb1⟩; have HB1 := Lib.hid hb1; clear hb1))
    go_ret
    exact ⟨rfl, (HX.out _ HB2.out).2.2.1⟩
  cases fw
  · go_enter Try.func8, Try.ntmps8
    go_upto_region 1 with (go_at_call 999)
    rw [HWW.out]
    go_wp2_with (first
      | (go_at_call 10; (with_reducible refine (HLV.out _).mono ?_); rintro e w2 ⟨rfl, hb2⟩; have HB2 := Lib.hid (bt HB1.out hb2); clear hb2)
      | (go_at_call 19; (with_reducible refine (HFW.out _).mono ?_); rintro e wf ⟨rfl, rfl⟩)
      | (go_at_call 9; (with_reducible refine HLT.out.mono ?_); rintro e w1 ⟨rfl, hb1⟩; have HB1 := Lib.hid hb1; clear hb1))
    go_ret
    exact ⟨rfl, (HX.out _ HB2.out).2.2.1⟩
  cases rs
  · go_enter Try.func8, Try.ntmps8
    go_upto_region 1 with (go_at_call 999)
    rw [HWW.out]
    go_wp2_with (first
      | (go_at_call 10; (with_reducible refine (HLV.out _).mono ?_); rintro e w3 ⟨rfl, hb3⟩; have HB3 := Lib.hid (bt HB2.out hb3); clear hb3)
      | (go_at_call 28; (with_reducible refine (HRS.out _ HB1.out).mono ?_); rintro e w2 ⟨rfl, hb2⟩; have HB2 := Lib.hid (bt HB1.out hb2); clear hb2)
      | (go_at_call 19; (with_reducible refine (HFW.out _).mono ?_); rintro e wf ⟨rfl, rfl⟩)
      | (go_at_call 9; (with_reducible refine HLT.out.mono ?_); rintro e w1 ⟨rfl, hb1⟩; have HB1 := Lib.hid hb1; clear hb1))
    go_ret
    exact ⟨rfl, (HX.out _ HB3.out).2.2.1⟩
  cases rn
  · go_enter Try.func8, Try.ntmps8
    go_upto_region 1 with (go_at_call 999)
    rw [HWW.out]
    go_wp2_with (first
      | (go_at_call 10; (with_reducible refine (HLV.out _).mono ?_); rintro e w4 ⟨rfl, hb4⟩; have HB4 := Lib.hid (bt HB3.out hb4); clear hb4)
      | (go_at_call 28; (with_reducible refine (HRN.out _ HB2.out).mono ?_); rintro e w3 ⟨rfl, hb3⟩; have HB3 := Lib.hid (bt HB2.out hb3); clear hb3)
      | (go_at_call 28; (with_reducible refine (HRS.out _ HB1.out).mono ?_); rintro e w2 ⟨rfl, hb2⟩; have HB2 := Lib.hid (bt HB1.out hb2); clear hb2)
      | (go_at_call 19; (with_reducible refine (HFW.out _).mono ?_); rintro e wf ⟨rfl, rfl⟩)
      | (go_at_call 9; (with_reducible refine HLT.out.mono ?_); rintro e w1 ⟨rfl, hb1⟩; have HB1 := Lib.hid hb1; clear hb1))
    go_ret
    exact ⟨rfl, (HX.out _ HB4.out).2.2.1⟩
  have hgs := HGS.out rfl
  have hgn := HGN.out rfl
  have hsz := HSZ.out rfl
  have HOK : Hid ((typS vs true t).2 = 0 → (evS vs t s n).2 = true ∧ InT (typS vs true t).1 (evS vs t s n).1) := Lib.hid (fun h => by
    obtain ⟨h1, h2⟩ := typS_in hgs hgn h
    rw [h1]
    exact ⟨rfl, h2⟩)
  have HNO : Hid ((typS vs true t).2 ≠ 0 → (evS vs t s n) = (0, false)) := Lib.hid (fun h => wi_no (fun g => h g.1))
  have HPT : Hid (∀ m j, idxN m vs = some j → (va vs j).b = false → -255 ≤ li s j ∧ li s j ≤ 255 → (typS vs true t).2 = 0 → (typS vs true (putE m (numE (li s j)) t)).2 = 0 ∧ (typS vs true (putE m (numE (li s j)) t)).1.b = (typS vs true t).1.b ∧ evS vs (putE m (numE (li s j)) t) s n = evS vs t s n) := Lib.hid (fun m j hj hb hv h => typS_put hgs hj hb hv h)
  have HSL := Lib.hid hgs.1
  have HZ : Hid (t.sz ≤ 300) := Lib.hid hsz
  clear hgs hgn hsz HGS HGN HSZ
  obtain ⟨R, hR⟩ : ∃ R, typS vs true t = R := ⟨_, rfl⟩
  rw [hR] at HT0 HOK HNO HPT
  obtain ⟨E, hE⟩ : ∃ E, evS vs t s n = E := ⟨_, rfl⟩
  rw [hE] at HE0 HOK HNO HPT
  clear hR hE
  obtain ⟨⟨Rb, Rl, Rh⟩, Re⟩ := R
  obtain ⟨v, ok⟩ := E
  have HTT : Hid (∀ w1, Below W.heap.size W w1 → Calls Try.prog 20 #[.slice V vs.length cv, exV t A c, .bool true] w1 fun e w' => e = .returned (.tuple #[.agg #[.bool Rb, .int .i64 Rl, .int .i64 Rh], .int .i64 Re]) ∧ Below w1.heap.size w1 w') := HT0
  have HEE : Hid (∀ w1, Below W.heap.size W w1 → Calls Try.prog 22 #[.slice V vs.length cv, exV t A c, .slice Sa s.length cs, .slice Na n.length cn] w1 fun e w' => e = .returned (.tuple #[.int .i64 v, .bool ok]) ∧ Below w1.heap.size w1 w') := HE0
  clear HT0 HE0
  by_cases hRe : Re = 0
  · subst hRe
    obtain ⟨hok, hin⟩ := HOK.out rfl
    obtain rfl : ok = true := hok
    have hcs : (Rb = true ∧ v = 0) ∨ (Rb = true ∧ v = 1) ∨ (Rb = false ∧ decide (v < Rl) = false ∧ decide (Rh < v) = false) := by
      cases Rb
      · have h := InT.r hin rfl
        exact .inr (.inr ⟨rfl, decide_eq_false (by have := h.1; simp only at this; omega), decide_eq_false (by have := h.2; simp only at this; omega)⟩)
      · rcases InT.b hin rfl with h | h
        · exact .inl ⟨rfl, h⟩
        · exact .inr (.inl ⟨rfl, h⟩)
    clear hin HOK HNO
    go_enter Try.func8, Try.ntmps8
    go_upto_region 1 with (go_at_call 999)
    rw [HWW.out]
    go_upto_region 7 with (first
      | (go_at_call 22; (with_reducible refine (HEE.out _ (al HB4.out _)).mono ?_); rintro e w5 ⟨rfl, hb5⟩; have HB5 := Lib.hid (bt (al HB4.out (.cells #[.bool Rb, .int .i64 Rl, .int .i64 Rh] 39)) hb5); have z := (Blk.new w4 39 #[.bool Rb, .int .i64 Rl, .int .i64 Rh]).below hb5 (by simp); have z0 : w5.cell? ⟨w4.heap.size, 0, none⟩ = some (.bool Rb) := z.cell 0; have z1 : w5.cell? ⟨w4.heap.size, 1, none⟩ = some (.int .i64 Rl) := z.cell 1; have z2 : w5.cell? ⟨w4.heap.size, 2, none⟩ = some (.int .i64 Rh) := z.cell 2; have zl := z.lt; have HZB := Lib.hid z; clear hb5 z)
      | (go_at_call 20; (with_reducible refine (HTT.out _ HB3.out).mono ?_); rintro e w4 ⟨rfl, hb4⟩; have hb4a := bt HB3.out hb4; have HB4 := Lib.hid hb4a; obtain ⟨⟨s0, s1, s2, s3⟩, _, _, s4⟩ := HX.out _ hb4a; clear hb4 hb4a)
      | (go_at_call 28; (with_reducible refine (HRN.out _ HB2.out).mono ?_); rintro e w3 ⟨rfl, hb3⟩; have hb3a := bt HB2.out hb3; have HB3 := Lib.hid hb3a; obtain ⟨⟨u0, u1, u2, u3⟩, _, _, u4⟩ := HX.out _ hb3a; clear hb3 hb3a)
      | (go_at_call 28; (with_reducible refine (HRS.out _ HB1.out).mono ?_); rintro e w2 ⟨rfl, hb2⟩; have HB2 := Lib.hid (bt HB1.out hb2); clear hb2)
      | (go_at_call 19; (with_reducible refine (HFW.out _).mono ?_); rintro e wf ⟨rfl, rfl⟩)
      | (go_at_call 9; (with_reducible refine HLT.out.mono ?_); rintro e w1 ⟨rfl, hb1⟩; have HB1 := Lib.hid hb1; clear hb1))
    clear q0 q1 q2 q3 ql s0 s1 s2 s3 s4 u0 u1 u2 u3 u4
    go_cut [98] (fun s1 wx => s1 = .bool false ∧ w5 = wx)
    case first =>
      rcases hcs with ⟨rfl, rfl⟩ | ⟨rfl, rfl⟩ | ⟨rfl, d1, d2⟩
      all_goals go_wp2_with fail
      all_goals go_meet
      all_goals exact ⟨rfl, rfl⟩
    case rest =>
    obtain ⟨rfl, rfl⟩ := hcut
    clear hcs
    by_cases hl0 : vs.length = 0
    · have e0 : ((vs.length : Int) == 0) = true := by rw [hl0]; rfl
      go_wp2_with (go_at_call 10; (with_reducible refine (HLV.out _).mono ?_); rintro e w6 ⟨rfl, hb6⟩; have HB6 := Lib.hid (bt HB5.out hb6); clear hb6)
      go_ret
      exact ⟨rfl, (HX.out _ HB6.out).2.2.1⟩
    · have hpos : 0 < vs.length := by omega
      have e0 : ((vs.length : Int) == 0) = false := beq_eq_false_iff_ne.2 (by omega)
      have e1 : ¬ ((vs.length : Int) = 0) := by omega
      obtain ⟨i, hi, hil⟩ : ∃ i : Nat, k.tmod (vs.length : Int) = (i : Int) ∧ i < vs.length := by
        have h1 := Int.emod_nonneg k e1
        have h2 := Int.emod_lt_of_pos k (show (0 : Int) < (vs.length : Int) by omega)
        exact ⟨(k % (vs.length : Int)).toNat, by rw [Int.tmod_eq_emod_of_nonneg hk.1]; omega, by omega⟩
      obtain ⟨j, hj, hjl⟩ := idxN_self hil
      have hJ : idxI (va vs i).nm vs = (j : Int) := by unfold idxI; rw [hj]
      have hj2 : idxN (va vs j).nm vs = some j := by rw [idxN_congr (idxN_at hj) vs]; exact hj
      have HII := Lib.hid (HIX.out w5 HB5.out (va vs i).nm)
      rw [hJ] at HII
      have HPJ : Hid ((va vs j).b = false → -255 ≤ li s j ∧ li s j ≤ 255 → (typS vs true (putE (va vs j).nm (numE (li s j)) t)).2 = 0 ∧ (typS vs true (putE (va vs j).nm (numE (li s j)) t)).1.b = Rb ∧ evS vs (putE (va vs j).nm (numE (li s j)) t) s n = (v, true)) := Lib.hid (fun h1 h2 => HPT.out (va vs j).nm j hj2 h1 h2 (by first | rfl | trivial))
      clear hJ hj hj2 HPT
      obtain ⟨b, f, rfl, hbl, hc⟩ := HVW.out w5 HB5.out hpos
      obtain ⟨ci, _, _, _⟩ := hc i hil
      obtain ⟨cj, cb, _, _⟩ := hc j hjl
      obtain ⟨b2, f2, rfl, hbl2, hc2⟩ := HSW.out w5 HB5.out (by rw [HSL.out]; exact hpos)
      have cs2 := hc2 j (by rw [HSL.out]; exact hjl)
      have l0 : (0 : Int) ≤ (i : Int) := by omega
      have l1 : (i : Int) < (vs.length : Int) := by omega
      have l2 : (0 : Int) ≤ (j : Int) := by omega
      have l3 : (j : Int) < (vs.length : Int) := by omega
      have l4 : (j : Int) < (s.length : Int) := by rw [HSL.out]; exact l3
      clear hc hc2 hl0 hil hjl
      generalize (va vs i).nm = mi at ci HII
      generalize (va vs j).nm = m at cj HPJ
      generalize (va vs j).b = bj at cb HPJ
      obtain ⟨x, hx⟩ : ∃ x, li s j = x := ⟨_, rfl⟩
      rw [hx] at cs2 HPJ
      clear hx
      cases bj
      · by_cases x1 : x < -255
        · go_wp2_with (first
            | (go_at_call 10; (with_reducible refine (HLV.out _).mono ?_); rintro e w6 ⟨rfl, hb6⟩; have HB6 := Lib.hid (bt HB5.out hb6); clear hb6)
            | (go_at_call 29; (with_reducible refine HII.out.mono ?_); rintro e wi ⟨rfl, rfl⟩))
          go_ret
          exact ⟨rfl, (HX.out _ HB6.out).2.2.1⟩
        · by_cases x2 : 255 < x
          · go_wp2_with (first
              | (go_at_call 10; (with_reducible refine (HLV.out _).mono ?_); rintro e w6 ⟨rfl, hb6⟩; have HB6 := Lib.hid (bt HB5.out hb6); clear hb6)
              | (go_at_call 29; (with_reducible refine HII.out.mono ?_); rintro e wi ⟨rfl, rfl⟩))
            go_ret
            exact ⟨rfl, (HX.out _ HB6.out).2.2.1⟩
          · obtain ⟨p1, p2, p3⟩ := HPJ.out rfl ⟨by omega, by omega⟩
            have hysz : (putE m (numE x) t).sz ≤ 300 := by
              have h1 := wi_putE m (numE x) t
              have h2 : (numE x).sz = 1 := rfl
              rw [h2] at h1
              have := HZ.out
              omega
            have HPU : Hid (∀ wx, Below w5.heap.size w5 wx → Calls Try.prog 24 #[.agg #[.int .i64 t.op, .int .i64 t.vr, .string t.nm, .slice A t.ks.length c], .string m, .agg #[.int .i64 1, .int .i64 x, .string ⟨#[]⟩, .slice none 0 0]] wx (GivT (putE m (numE x) t) (· < w5.heap.size) wx)) := Lib.hid (fun wx h =>
              pr_Put t (numE x) m A none c 0 (· < w5.heap.size) wx (by have := HZ.out; omega) (by show (1 : Nat) ≤ _; omega) ((HRW.out w5 HB5.out).under h).toS (RepS.leaf rfl) (fun y hy => Nat.lt_of_lt_of_le hy h.size))
            obtain ⟨y, hy⟩ : ∃ y, putE m (numE x) t = y := ⟨_, rfl⟩
            rw [hy] at HPU hysz p1 p2 p3
            clear hy HPJ
            have HQ : Hid (∀ wx, Below w5.heap.size w5 wx → (wx.cell? ⟨w.heap.size, 0, none⟩ = some (.int .i64 t.op) ∧ wx.cell? ⟨w.heap.size, 1, none⟩ = some (.int .i64 t.vr) ∧ wx.cell? ⟨w.heap.size, 2, none⟩ = some (.string t.nm) ∧ wx.cell? ⟨w.heap.size, 3, none⟩ = some (.slice A t.ks.length c)) ∧ wx.cell? ⟨b, f + j * 4, none⟩ = some (.string m) ∧ wx.cell? ⟨b2, f2 + j, none⟩ = some (.int .i64 x)) := Lib.hid (fun wx h => ⟨(HX.out wx (bt HB5.out h)).1, (h.cell (p := ⟨b, f + j * 4, none⟩) hbl).trans cj, (h.cell (p := ⟨b2, f2 + j, none⟩) hbl2).trans cs2⟩)
            have HTY : Hid (∀ A5 c5 wx, Below W.heap.size W wx → Rep wx.heap.size wx A5 y → ∃ yl yh, Calls Try.prog 20 #[.slice (some ⟨b, f, none⟩) vs.length cv, .agg #[.int .i64 y.op, .int .i64 y.vr, .string y.nm, .slice A5 y.ks.length c5], .bool true] wx fun e w' => e = .returned (.tuple #[.agg #[.bool Rb, .int .i64 yl, .int .i64 yh], .int .i64 0]) ∧ Below wx.heap.size wx w') := Lib.hid (fun A5 c5 wx h1 h2 => by
              have h3 := HT.out y A5 c5 wx h1 h2 (by omega)
              refine ⟨(typS vs true y).1.lo, (typS vs true y).1.hi, h3.mono (fun e w' ⟨he, hb⟩ => ⟨?_, hb⟩)⟩
              rw [he, ← p1, ← p2])
            have HEY : Hid (∀ A5 c5 wx, Below W.heap.size W wx → Rep wx.heap.size wx A5 y → Calls Try.prog 22 #[.slice (some ⟨b, f, none⟩) vs.length cv, .agg #[.int .i64 y.op, .int .i64 y.vr, .string y.nm, .slice A5 y.ks.length c5], .slice (some ⟨b2, f2, none⟩) s.length cs, .slice Na n.length cn] wx fun e w' => e = .returned (.tuple #[.int .i64 v, .bool true]) ∧ Below wx.heap.size wx w') := Lib.hid (fun A5 c5 wx h1 h2 => by
              have h3 := HE.out y A5 c5 wx h1 h2 (by omega)
              rw [p3] at h3
              exact h3)
            clear p1 p2 p3 hysz
            go_upto_region 15 with (go_at_call 29; (with_reducible refine HII.out.mono ?_); rintro e wi ⟨rfl, rfl⟩)
            go_cut [17] (fun s1 wx => ∃ g A5 c5, s1 = .pointer (some ⟨g, 0, none⟩) ∧ Blk wx g 24 #[.int .i64 y.op, .int .i64 y.vr, .string y.nm, .slice A5 y.ks.length c5] ∧ Rep wx.heap.size wx A5 y ∧ Below w5.heap.size w5 wx)
            case first =>
              have hS0 := HQ.out _ (Below.refl _ _)
              have hD : Below w5.heap.size w5 w5.drew := (Below.refl _ _).drew
              go_region_held3 (fun wx => (wx.cell? ⟨w.heap.size, 0, none⟩ = some (.int .i64 t.op) ∧ wx.cell? ⟨w.heap.size, 1, none⟩ = some (.int .i64 t.vr) ∧ wx.cell? ⟨w.heap.size, 2, none⟩ = some (.string t.nm) ∧ wx.cell? ⟨w.heap.size, 3, none⟩ = some (.slice A t.ks.length c)) ∧ wx.cell? ⟨b, f + j * 4, none⟩ = some (.string m) ∧ wx.cell? ⟨b2, f2 + j, none⟩ = some (.int .i64 x)) (first | with_reducible exact HQ.out _ hB | with_reducible exact HQ.out _ (al hB _) | with_reducible exact HQ.out _ (below_set (below_set (below_set (below_set hB (by omega) _ _) (by omega) _ _) (by omega) _ _) (by omega) _ _) | with_reducible exact HQ.out _ hA | with_reducible exact HQ.out _ (al hA _) | exact hS0 | exact HQ.out _ (al hD _) | exact HQ.out _ hD | go_keep) (first
                | (go_at_call 30; (with_reducible refine (pr_num x _).mono ?_); rintro e wA ⟨rfl, hA0⟩; have hA : Below w5.heap.size w5 wA := (by first | exact bt hD hA0 | exact bt (al hD _) hA0); have hAs := hA.size; first | have zA : Blk wA w5.heap.size 24 #[.int .i64 0, .int .i64 0, .string ⟨#[]⟩, .slice none 0 0] := (Blk.new w5.drew 24 #[.int .i64 0, .int .i64 0, .string ⟨#[]⟩, .slice none 0 0]).below hA0 (by simp) | skip; clear hA0)
                | (go_at_call 24; (first | (with_reducible refine (HPU.out _ hA).mono ?_) | (with_reducible refine (HPU.out _ (al hA _)).mono ?_)); rintro e wB ⟨AB, cB, rfl, hRB, hB0⟩; have hB : Below w5.heap.size w5 wB := (by first | exact bt hA hB0 | exact bt (al hA _) hB0); have hBs := hB.size; have hB1 := hB0.size; (first | (have zl := zA.lt; have zB := zA.below hB0 zl; have z0 : wB.cell? ⟨_, 0, none⟩ = some (.int .i64 0) := zB.cell 0; have y0 := zB.frozen 0; have z1 : wB.cell? ⟨_, 1, none⟩ = some (.int .i64 0) := zB.cell 1; have y1 := zB.frozen 1; have z2 : wB.cell? ⟨_, 2, none⟩ = some (.string ⟨#[]⟩) := zB.cell 2; have y2 := zB.frozen 2; have z3 : wB.cell? ⟨_, 3, none⟩ = some (.slice none 0 0) := zB.cell 3; have y3 := zB.frozen 3; have zz := zB.lt; have ZC := Lib.hid zB; clear zB) | (have zB : Blk wB wA.heap.size 24 #[.int .i64 0, .int .i64 0, .string ⟨#[]⟩, .slice none 0 0] := (Blk.new wA 24 #[.int .i64 0, .int .i64 0, .string ⟨#[]⟩, .slice none 0 0]).below hB0 (by simp); have z0 : wB.cell? ⟨_, 0, none⟩ = some (.int .i64 0) := zB.cell 0; have y0 := zB.frozen 0; have z1 : wB.cell? ⟨_, 1, none⟩ = some (.int .i64 0) := zB.cell 1; have y1 := zB.frozen 1; have z2 : wB.cell? ⟨_, 2, none⟩ = some (.string ⟨#[]⟩) := zB.cell 2; have y2 := zB.frozen 2; have z3 : wB.cell? ⟨_, 3, none⟩ = some (.slice none 0 0) := zB.cell 3; have y3 := zB.frozen 3; have zz := zB.lt; have ZC := Lib.hid zB; clear zB) | skip); clear hB0))
              all_goals
                go_wp2_with fail
                go_meet
                first
                  | exact ⟨_, _, _, rfl, ((((ZC.out.set_ 0 _).set_ 1 _).set_ 2 _).set_ 3 _), (hRB.kept (fun q hq => set4_blk _ _ _ _ _ (by simp at hq hB1 ⊢; omega))).toR (fun q hq => by rw [set4_size]; exact hq.2), (below_set (below_set (below_set (below_set hB (by omega) _ _) (by omega) _ _) (by omega) _ _) (by omega) _ _)⟩
                  | exact ⟨_, _, _, rfl, Blk.new _ _ _, (hRB.toR (fun q hq => hq.2)).step (al (Below.refl _ _) _), al hB _⟩
            case rest =>
            obtain ⟨g17, A5, c5, rfl, w6k, w6r, w6b⟩ := hcut
            obtain ⟨w6, w6e⟩ : ∃ x, x = wc := ⟨_, rfl⟩
            subst w6e
            have HB6 : Hid (Below W.heap.size W w6) := Lib.hid (bt HB5.out w6b)
            have hz6 := HZB.out.below w6b HZB.out.lt
            have HZ6 := Lib.hid hz6
            have HK6 := Lib.hid w6k
            have HR6 := Lib.hid w6r
            have d0 : w6.cell? ⟨g17, 0, none⟩ = some (.int .i64 y.op) := w6k.cell 0
            have d1 : w6.cell? ⟨g17, 1, none⟩ = some (.int .i64 y.vr) := w6k.cell 1
            have d2 : w6.cell? ⟨g17, 2, none⟩ = some (.string y.nm) := w6k.cell 2
            have d3 : w6.cell? ⟨g17, 3, none⟩ = some (.slice A5 y.ks.length c5) := w6k.cell 3
            have d4 := w6k.lt
            obtain ⟨yl, yh, hT6⟩ := HTY.out A5 c5 w6 HB6.out w6r
            have HT6 := Lib.hid hT6
            clear w6b w6k w6r hT6 hz6 z0 z1 z2 zl cj cb ci cs2 HPU HQ HTY
            go_upto_region 17 with (go_at_call 20; (with_reducible refine HT6.out.mono ?_); rintro e w7 ⟨rfl, hb7⟩; have HB7 := Lib.hid hb7; obtain ⟨k0, k1, k2, k3, k4⟩ : w7.cell? ⟨g17, 0, none⟩ = some (.int .i64 y.op) ∧ w7.cell? ⟨g17, 1, none⟩ = some (.int .i64 y.vr) ∧ w7.cell? ⟨g17, 2, none⟩ = some (.string y.nm) ∧ w7.cell? ⟨g17, 3, none⟩ = some (.slice A5 y.ks.length c5) ∧ g17 < w7.heap.size := ⟨(HK6.out.below hb7 HK6.out.lt).cell 0, (HK6.out.below hb7 HK6.out.lt).cell 1, (HK6.out.below hb7 HK6.out.lt).cell 2, (HK6.out.below hb7 HK6.out.lt).cell 3, (HK6.out.below hb7 HK6.out.lt).lt⟩; clear hb7)
            clear d0 d1 d2 d3 d4
            have HX7 : Hid (Below W.heap.size W (w7.alloc (.cells #[.bool Rb, .int .i64 yl, .int .i64 yh] 39))) := Lib.hid (al (bt HB6.out HB7.out) _)
            have HR7 : Hid (Rep (w7.alloc (.cells #[.bool Rb, .int .i64 yl, .int .i64 yh] 39)).heap.size (w7.alloc (.cells #[.bool Rb, .int .i64 yl, .int .i64 yh] 39)) A5 y) := Lib.hid (HR6.out.step (al HB7.out _))
            go_upto_region 18 with (go_at_call 22; (with_reducible refine (HEY.out A5 c5 _ HX7.out HR7.out).mono ?_); rintro e w8 ⟨rfl, hb8⟩; have HB8 := Lib.hid (bt HX7.out hb8); obtain ⟨k5, k6⟩ : w8.cell? ⟨w4.heap.size, 0, none⟩ = some (.bool Rb) ∧ w4.heap.size < w8.heap.size := ⟨(HZ6.out.below (bt (al HB7.out _) hb8) HZ6.out.lt).cell 0, (HZ6.out.below (bt (al HB7.out _) hb8) HZ6.out.lt).lt⟩; obtain ⟨k7, k8⟩ : w8.cell? ⟨w7.heap.size, 0, none⟩ = some (.bool Rb) ∧ w7.heap.size < w8.heap.size := ⟨((Blk.new w7 39 #[.bool Rb, .int .i64 yl, .int .i64 yh]).below hb8 (by simp)).cell 0, ((Blk.new w7 39 #[.bool Rb, .int .i64 yl, .int .i64 yh]).below hb8 (by simp)).lt⟩; clear hb8)
            clear k0 k1 k2 k3 k4
            have hvv : (v == v) = true := by simp
            cases Rb
            all_goals go_wp2_with (go_at_call 10; (with_reducible refine (HLV.out _).mono ?_); rintro e w9 ⟨rfl, hb9⟩; have HB9 := Lib.hid (bt HB8.out hb9); clear hb9)
            all_goals go_ret
            all_goals exact ⟨rfl, (HX.out _ HB9.out).2.2.1⟩
      · go_wp2_with (first
          | (go_at_call 10; (with_reducible refine (HLV.out _).mono ?_); rintro e w6 ⟨rfl, hb6⟩; have HB6 := Lib.hid (bt HB5.out hb6); clear hb6)
          | (go_at_call 29; (with_reducible refine HII.out.mono ?_); rintro e wi ⟨rfl, rfl⟩))
        go_ret
        exact ⟨rfl, (HX.out _ HB6.out).2.2.1⟩
  · have hEq := HNO.out hRe
    obtain ⟨rfl, rfl⟩ : v = 0 ∧ ok = false := by cases hEq; exact ⟨rfl, rfl⟩
    have hRe1 : (Re != 0) = true := by simp [hRe]
    clear hEq hRe
    go_enter Try.func8, Try.ntmps8
    go_upto_region 1 with (go_at_call 999)
    rw [HWW.out]
    go_wp2_with (first
      | (go_at_call 10; (with_reducible refine (HLV.out _).mono ?_); rintro e w6 ⟨rfl, hb6⟩; have HB6 := Lib.hid (bt HB5.out hb6); clear hb6)
      | (go_at_call 22; (with_reducible refine (HEE.out _ (al HB4.out _)).mono ?_); rintro e w5 ⟨rfl, hb5⟩; have HB5 := Lib.hid (bt (al HB4.out (.cells #[.bool Rb, .int .i64 Rl, .int .i64 Rh] 39)) hb5); clear hb5)
      | (go_at_call 20; (with_reducible refine (HTT.out _ HB3.out).mono ?_); rintro e w4 ⟨rfl, hb4⟩; have hb4a := bt HB3.out hb4; have HB4 := Lib.hid hb4a; obtain ⟨⟨s0, s1, s2, s3⟩, _, _, s4⟩ := HX.out _ hb4a; clear hb4 hb4a)
      | (go_at_call 28; (with_reducible refine (HRN.out _ HB2.out).mono ?_); rintro e w3 ⟨rfl, hb3⟩; have hb3a := bt HB2.out hb3; have HB3 := Lib.hid hb3a; obtain ⟨⟨u0, u1, u2, u3⟩, _, _, u4⟩ := HX.out _ hb3a; clear hb3 hb3a)
      | (go_at_call 28; (with_reducible refine (HRS.out _ HB1.out).mono ?_); rintro e w2 ⟨rfl, hb2⟩; have HB2 := Lib.hid (bt HB1.out hb2); clear hb2)
      | (go_at_call 19; (with_reducible refine (HFW.out _).mono ?_); rintro e wf ⟨rfl, rfl⟩)
      | (go_at_call 9; (with_reducible refine HLT.out.mono ?_); rintro e w1 ⟨rfl, hb1⟩; have HB1 := Lib.hid hb1; clear hb1))
    go_ret
    exact ⟨rfl, (HX.out _ HB6.out).2.2.1⟩
end Go.Proofs.Ytcdpjodnbegepaa
