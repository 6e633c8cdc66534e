/- TermsPuts's walk; layer 30 (terms). -/
import Derived.Test.YtcdpjodnbegepaaPt7
import Derived.Test.YtcdpjodnbegepaaSm2
import Derived.Test.YtcdpjodnbegepaaFnW
import Derived.Deep.RegionHeld3
namespace Go.Proofs.Ytcdpjodnbegepaa
open Go.RowKit

theorem sz_pos (t : Ex) : 1 ≤ t.sz := by have := sz_eq t; omega
mutual
theorem putE_sz (m : ByteArray) (x : Ex) : ∀ t : Ex, (putE m x t).sz ≤ t.sz * x.sz
  | .mk o v nm ks => by
    have h1 := sz_pos x
    have h2 := putL_sz m x ks
    have e1 := sz_eq (.mk o v nm ks)
    have e3 : (Ex.mk o v nm ks).ks = ks := rfl
    rw [e3] at e1
    rw [putE_eq, e1, Nat.add_mul, Nat.one_mul]
    split
    · exact Nat.le_add_right _ _
    · have e2 := sz_eq (.mk (Ex.mk o v nm ks).op (Ex.mk o v nm ks).vr (Ex.mk o v nm ks).nm (putL m x (Ex.mk o v nm ks).ks))
      have e4 : (Ex.mk (Ex.mk o v nm ks).op (Ex.mk o v nm ks).vr (Ex.mk o v nm ks).nm (putL m x (Ex.mk o v nm ks).ks)).ks = putL m x ks := rfl
      rw [e4] at e2
      omega
theorem putL_sz (m : ByteArray) (x : Ex) : ∀ l : List Ex, szL (putL m x l) ≤ szL l * x.sz
  | [] => Nat.zero_le _
  | t :: r => by
    have h1 := putE_sz m x t
    have h2 := putL_sz m x r
    show (putE m x t).sz + szL (putL m x r) ≤ (t.sz + szL r) * x.sz
    rw [Nat.add_mul]
    omega
end
theorem eq_one (t : Ex) : eqE t (.mk t.op 0 ⟨#[]⟩ [t]) = false := by
  cases e : eqE t (.mk t.op 0 ⟨#[]⟩ [t]) with
  | false => rfl
  | true =>
    have h := eqE_sz _ _ e
    have h2 := sz_eq (.mk t.op 0 ⟨#[]⟩ [t])
    have h3 : szL (Ex.mk t.op 0 ⟨#[]⟩ [t]).ks = t.sz + 0 := rfl
    omega
theorem light_sz {t : Ex} (h : lightS t = true) : t.sz ≤ 300 := by
  unfold lightS at h
  simp only [Bool.and_eq_true, decide_eq_true_eq] at h
  exact h.1
/-- A term of one Kid, fresh. -/
theorem rep_one {w : World} {A : Option Addr} {c : Nat} {t : Ex} (h : Rep w.heap.size w A t) (o : Int) : Rep (w.alloc (.cells (exC t A c) 24)).heap.size (w.alloc (.cells (exC t A c) 24)) (some ⟨w.heap.size, 0, none⟩) (.mk o 0 ⟨#[]⟩ [t]) := by
  have hb : Below w.heap.size w (w.alloc (.cells (exC t A c) 24)) := al (Below.refl _ _) _
  have hk := Blk.new w 24 (exC t A c)
  refine Rep.node hk.lt (fun i hi => ?_)
  obtain rfl : i = 0 := by have : i < 1 := hi; omega
  exact ⟨A, c, hk.cell 0, hk.cell 1, hk.cell 2, hk.cell 3, h.step hb⟩
set_option maxRecDepth 100000 in
set_option maxHeartbeats 8000000 in
theorem termsPuts_walk (t : Ex) (A : Option Addr) (c : Nat) (x : Ex) (B : Option Addr) (d : Nat) (m : ByteArray) (w : World) (hR : Rep w.heap.size w A t) (ht : t.sz ≤ 100000000) (hRx : Rep w.heap.size w B x) (hx : x.sz ≤ 100000000) :
    Calls Try.prog 6 #[exV t A c, exV x B d, .string m] w (RetT w) := by
  obtain ⟨W, hW⟩ : ∃ W, (w.alloc (.cells #[.int .i64 t.op, .int .i64 t.vr, .string t.nm, .slice A t.ks.length c] 24)).alloc (.cells #[.int .i64 x.op, .int .i64 x.vr, .string x.nm, .slice B x.ks.length d] 24) = W := ⟨_, rfl⟩
  have blk : ∀ (w : World) (g : Nat) (ty : TypeId) (cs : Array Value), w.heap.size = g → Blk (w.alloc (.cells cs ty)) g ty cs := fun w g ty cs e => by rw [← e]; exact Blk.new w ty cs
  have hb0 : Blk W w.heap.size 24 #[.int .i64 t.op, .int .i64 t.vr, .string t.nm, .slice A t.ks.length c] := by rw [← hW]; exact (blk _ _ _ _ rfl).alloc _
  have hb1 : Blk W (w.heap.size + 1) 24 #[.int .i64 x.op, .int .i64 x.vr, .string x.nm, .slice B x.ks.length d] := by rw [← hW]; exact blk _ _ _ _ (by simp)
  have hal : Below w.heap.size w W := by rw [← hW]; exact al (al (Below.refl _ _) _) _
  have HX : Hid (∀ wx, Below W.heap.size W wx → ((wx.cell? ⟨w.heap.size, 0, none⟩ = some (.int .i64 t.op) ∧ wx.cell? ⟨w.heap.size, 1, none⟩ = some (.int .i64 t.vr) ∧ wx.cell? ⟨w.heap.size, 2, none⟩ = some (.string t.nm) ∧ wx.cell? ⟨w.heap.size, 3, none⟩ = some (.slice A t.ks.length c)) ∧ (wx.cell? ⟨w.heap.size + 1, 0, none⟩ = some (.int .i64 x.op) ∧ wx.cell? ⟨w.heap.size + 1, 1, none⟩ = some (.int .i64 x.vr) ∧ wx.cell? ⟨w.heap.size + 1, 2, none⟩ = some (.string x.nm) ∧ wx.cell? ⟨w.heap.size + 1, 3, none⟩ = some (.slice B x.ks.length d))) ∧ Rep wx.heap.size wx A t ∧ Rep wx.heap.size wx B x ∧ Below w.heap.size w wx ∧ w.heap.size + 1 < wx.heap.size) := Lib.hid (fun wx h => by
    have k0 := hb0.below h hb0.lt
    have k1 := hb1.below h hb1.lt
    have hbx := bt hal h
    exact ⟨⟨⟨k0.cell 0, k0.cell 1, k0.cell 2, k0.cell 3⟩, k1.cell 0, k1.cell 1, k1.cell 2, k1.cell 3⟩, hR.step hbx, hRx.step hbx, hbx, k1.lt⟩)
  have HLT : Hid (∀ wx, Below W.heap.size W wx → Calls Try.prog 9 #[exV t A c] wx fun e w' => e = .returned (.bool (lightS t)) ∧ Below wx.heap.size wx w') := Lib.hid (fun wx h => lw_Light t A c wx ht (HX.out wx h).2.1)
  have HLX : Hid (∀ wx, Below W.heap.size W wx → Calls Try.prog 9 #[exV x B d] wx fun e w' => e = .returned (.bool (lightS x)) ∧ Below wx.heap.size wx w') := Lib.hid (fun wx h => lw_Light x B d wx hx (HX.out wx h).2.2.1)
  have HLV := Lib.hid law_lives
  have HWW := Lib.hid hW
  have HR0 : Hid (Below W.heap.size W W) := Lib.hid (Below.refl _ _)
  obtain ⟨⟨⟨q0, q1, q2, q3⟩, r0, r1, r2, r3⟩, _, _, _, rl⟩ := HX.out W HR0.out
  have ql : w.heap.size < W.heap.size := by omega
  show Calls Try.prog 6 #[.agg #[.int .i64 t.op, .int .i64 t.vr, .string t.nm, .slice A t.ks.length c], .agg #[.int .i64 x.op, .int .i64 x.vr, .string x.nm, .slice B x.ks.length d], .string m] w _
  clear hW blk hb0 hb1 hal hR hRx ht hx
  have HLTS : Hid (lightS t = true → t.sz ≤ 300) := Lib.hid light_sz
  have HLXS : Hid (lightS x = true → x.sz ≤ 300) := Lib.hid light_sz
  obtain ⟨lt, hlt⟩ : ∃ lt, lightS t = lt := ⟨_, rfl⟩
  obtain ⟨lx, hlx⟩ : ∃ lx, lightS x = lx := ⟨_, rfl⟩
  rw [hlt] at HLT HLTS
  rw [hlx] at HLX HLXS
  clear hlt hlx
  cases lt
  · go_enter Try.func6, Try.ntmps6
    go_upto_region 1 with (go_at_call 999)
    rw [HWW.out]
    go_wp2_with (first
      | (go_at_call 10; (with_reducible refine (HLV.out _).mono ?_); rintro e w2 ⟨rfl, hb2⟩; have HB2 := Lib.hid (bt HB1.out hb2); clear hb2)
      | (go_at_call 9; (with_reducible refine (HLT.out _ HR0.out).mono ?_); rintro e w1 ⟨rfl, hb1⟩; have HB1 := Lib.hid hb1; clear hb1))
    go_ret
    exact ⟨rfl, (HX.out _ HB2.out).2.2.2.1⟩
  cases lx
  · go_enter Try.func6, Try.ntmps6
    go_upto_region 1 with (go_at_call 999)
    rw [HWW.out]
    go_wp2_with (first
      | (go_at_call 10; (with_reducible refine (HLV.out _).mono ?_); rintro e w3 ⟨rfl, hb3⟩; have HB3 := Lib.hid (bt HB2.out hb3); clear hb3)
      | (go_at_call 9; (with_reducible refine (HLX.out _ HB1.out).mono ?_); rintro e w2 ⟨rfl, hb2⟩; have HB2 := Lib.hid (bt HB1.out hb2); clear hb2)
      | (go_at_call 9; (with_reducible refine (HLT.out _ HR0.out).mono ?_); rintro e w1 ⟨rfl, hb1⟩; have HB1 := Lib.hid hb1; obtain ⟨⟨⟨s0, s1, s2, s3⟩, s4, s5, s6, s7⟩, _, _, _, sl⟩ := HX.out _ hb1; clear hb1))
    go_ret
    exact ⟨rfl, (HX.out _ HB3.out).2.2.2.1⟩
  have hts := HLTS.out rfl
  have hxs := HLXS.out rfl
  have hys : (putE m x t).sz ≤ 90000 := Nat.le_trans (putE_sz m x t) (Nat.mul_le_mul hts hxs)
  obtain ⟨y, hy⟩ : ∃ y, putE m x t = y := ⟨_, rfl⟩
  rw [hy] at hys
  have HP : Hid (∀ wx, Below W.heap.size W wx → Calls Try.prog 24 #[exV t A c, .string m, exV x B d] wx (GivT y (· < wx.heap.size) wx)) := Lib.hid (fun wx h => by
    obtain ⟨_, h1, h2, _⟩ := HX.out wx h
    rw [← hy]
    exact pr_Put t x m A B c d (· < wx.heap.size) wx (by omega) (by omega) h1.toS h2.toS (fun _ h => h))
  have HP2 : Hid (∀ wx, Below W.heap.size W wx → Calls Try.prog 26 #[exV t A c, .string m, exV x B d] wx (GivT y (· < wx.heap.size) wx)) := Lib.hid (fun wx h => by
    obtain ⟨_, h1, h2, _⟩ := HX.out wx h
    rw [← hy]
    exact rf_Put x m (· < wx.heap.size) t.sz t (Nat.le_refl _) (by omega) A B c d wx h1.toS h2.toS (fun _ h => h))
  obtain ⟨q, hq⟩ : ∃ q, eqE t x = q := ⟨_, rfl⟩
  have HS27 : Hid (∀ wx, Below W.heap.size W wx → Calls Try.prog 27 #[exV t A c, exV x B d] wx (ValP wx q)) := Lib.hid (fun wx h => by
    obtain ⟨_, h1, h2, _⟩ := HX.out wx h
    rw [← hq]
    exact pr_Same t.sz t (Nat.le_refl _) (by omega) x (by omega) A B c d wx h1 h2)
  have HS25 : Hid (∀ wx, Below W.heap.size W wx → Calls Try.prog 25 #[exV t A c, exV x B d] wx (ValP wx q)) := Lib.hid (fun wx h => by
    obtain ⟨_, h1, h2, _⟩ := HX.out wx h
    rw [← hq]
    exact rf_Same t.sz t (Nat.le_refl _) (by omega) x (by omega) A B c d wx h1 h2)
  have HSO : Hid (∀ wx, Below W.heap.size W wx → Calls Try.prog 27 #[exV t A c, .agg #[.int .i64 t.op, .int .i64 0, .string ⟨#[]⟩, .slice (some ⟨wx.heap.size, 0, none⟩) 1 1]] (wx.alloc (.cells #[.int .i64 t.op, .int .i64 t.vr, .string t.nm, .slice A t.ks.length c] 24)) (ValP (wx.alloc (.cells #[.int .i64 t.op, .int .i64 t.vr, .string t.nm, .slice A t.ks.length c] 24)) false)) := Lib.hid (fun wx h => by
    obtain ⟨_, h1, _⟩ := HX.out wx h
    have h2 := pr_Same t.sz t (Nat.le_refl _) (by omega) (.mk t.op 0 ⟨#[]⟩ [t]) (by rw [sz_eq]; show 1 + (t.sz + 0) ≤ _; omega) A (some ⟨wx.heap.size, 0, none⟩) c 1 _ (h1.step (al (Below.refl _ _) (.cells #[.int .i64 t.op, .int .i64 t.vr, .string t.nm, .slice A t.ks.length c] 24))) (rep_one h1 t.op)
    rw [eq_one] at h2
    exact h2)
  have HYY : Hid (∀ (A5 A6 : Option Addr) (c5 c6 : Nat) wx, Rep wx.heap.size wx A5 y → Rep wx.heap.size wx A6 y → Calls Try.prog 25 #[exV y A5 c5, exV y A6 c6] wx (ValP wx true) ∧ Calls Try.prog 27 #[exV y A5 c5, exV y A6 c6] wx (ValP wx true)) := Lib.hid (fun A5 A6 c5 c6 wx h1 h2 => by
    have e := eqE_refl y
    have g1 := rf_Same y.sz y (Nat.le_refl _) (by omega) y (by omega) A5 A6 c5 c6 wx h1 h2
    have g2 := pr_Same y.sz y (Nat.le_refl _) (by omega) y (by omega) A5 A6 c5 c6 wx h1 h2
    rw [e] at g1 g2
    exact ⟨g1, g2⟩)
  clear hy hq hts hxs hys HLTS HLXS
  go_enter Try.func6, Try.ntmps6
  go_upto_region 1 with (go_at_call 999)
  rw [HWW.out]
  go_upto_region 4 with (first
    | (go_at_call 24; (with_reducible refine (HP.out _ HB2.out).mono ?_); rintro e w3 hgv; obtain ⟨A5, c5, rfl, hR5, hb3⟩ := hgv; have HR5 := Lib.hid hR5; have hbb := bt HB2.out hb3; obtain ⟨⟨⟨v0, v1, v2, v3⟩, v4, v5, v6, v7⟩, _, _, _, vl⟩ := HX.out _ hbb; have HB3 := Lib.hid hbb; clear hR5 hb3 hbb)
    | (go_at_call 9; (with_reducible refine (HLX.out _ HB1.out).mono ?_); rintro e w2 ⟨rfl, hb2⟩; have hbb := bt HB1.out hb2; obtain ⟨⟨⟨u0, u1, u2, u3⟩, u4, u5, u6, u7⟩, _, _, _, ul⟩ := HX.out _ hbb; have HB2 := Lib.hid hbb; clear hb2 hbb)
    | (go_at_call 9; (with_reducible refine (HLT.out _ HR0.out).mono ?_); rintro e w1 ⟨rfl, hb1⟩; have HB1 := Lib.hid hb1; obtain ⟨⟨⟨s0, s1, s2, s3⟩, s4, s5, s6, s7⟩, _, _, _, sl⟩ := HX.out _ hb1; clear hb1))
  obtain ⟨W4, hW4⟩ : ∃ W4, w3.alloc (.cells #[.int .i64 y.op, .int .i64 y.vr, .string y.nm, .slice A5 y.ks.length c5] 24) = W4 := ⟨_, rfl⟩
  have hb4 : Below w3.heap.size w3 W4 := by rw [← hW4]; exact al (Below.refl _ _) _
  have hk4 : Blk W4 w3.heap.size 24 #[.int .i64 y.op, .int .i64 y.vr, .string y.nm, .slice A5 y.ks.length c5] := by rw [← hW4]; exact Blk.new w3 24 _
  rw [hW4]
  have hbW := bt HB3.out hb4
  have HY : Hid (∀ wx, Below W4.heap.size W4 wx → ((wx.cell? ⟨w.heap.size, 0, none⟩ = some (.int .i64 t.op) ∧ wx.cell? ⟨w.heap.size, 1, none⟩ = some (.int .i64 t.vr) ∧ wx.cell? ⟨w.heap.size, 2, none⟩ = some (.string t.nm) ∧ wx.cell? ⟨w.heap.size, 3, none⟩ = some (.slice A t.ks.length c)) ∧ (wx.cell? ⟨w.heap.size + 1, 0, none⟩ = some (.int .i64 x.op) ∧ wx.cell? ⟨w.heap.size + 1, 1, none⟩ = some (.int .i64 x.vr) ∧ wx.cell? ⟨w.heap.size + 1, 2, none⟩ = some (.string x.nm) ∧ wx.cell? ⟨w.heap.size + 1, 3, none⟩ = some (.slice B x.ks.length d)) ∧ wx.cell? ⟨w3.heap.size, 0, none⟩ = some (.int .i64 y.op) ∧ wx.cell? ⟨w3.heap.size, 1, none⟩ = some (.int .i64 y.vr) ∧ wx.cell? ⟨w3.heap.size, 2, none⟩ = some (.string y.nm) ∧ wx.cell? ⟨w3.heap.size, 3, none⟩ = some (.slice A5 y.ks.length c5)) ∧ Below W.heap.size W wx ∧ Rep wx.heap.size wx A5 y) := Lib.hid (fun wx h => by
    have k5 := hk4.below h hk4.lt
    have h3 := bt hb4 h
    have hx := bt hbW h
    obtain ⟨⟨h5, h6⟩, _⟩ := HX.out wx hx
    exact ⟨⟨h5, h6, k5.cell 0, k5.cell 1, k5.cell 2, k5.cell 3⟩, hx, (HR5.out.toR (fun b hb => hb.2)).step h3⟩)
  have HDR : Hid (Below W4.heap.size W4 W4.drew) := Lib.hid ((Below.refl _ _).drew)
  clear hW4 hb4 hk4 hbW v0 v1 v2 v3 v4 v5 v6 v7 vl u0 u1 u2 u3 u4 u5 u6 u7 ul s0 s1 s2 s3 s4 s5 s6 s7 sl q0 q1 q2 q3 r0 r1 r2 r3 rl ql
  have HQQ : Hid ((q == q) = true) := Lib.hid (by cases q <;> rfl)
  cases q
  all_goals
    go_region_held3 (fun wx => (wx.cell? ⟨w.heap.size, 0, none⟩ = some (.int .i64 t.op) ∧ wx.cell? ⟨w.heap.size, 1, none⟩ = some (.int .i64 t.vr) ∧ wx.cell? ⟨w.heap.size, 2, none⟩ = some (.string t.nm) ∧ wx.cell? ⟨w.heap.size, 3, none⟩ = some (.slice A t.ks.length c)) ∧ (wx.cell? ⟨w.heap.size + 1, 0, none⟩ = some (.int .i64 x.op) ∧ wx.cell? ⟨w.heap.size + 1, 1, none⟩ = some (.int .i64 x.vr) ∧ wx.cell? ⟨w.heap.size + 1, 2, none⟩ = some (.string x.nm) ∧ wx.cell? ⟨w.heap.size + 1, 3, none⟩ = some (.slice B x.ks.length d)) ∧ wx.cell? ⟨w3.heap.size, 0, none⟩ = some (.int .i64 y.op) ∧ wx.cell? ⟨w3.heap.size, 1, none⟩ = some (.int .i64 y.vr) ∧ wx.cell? ⟨w3.heap.size, 2, none⟩ = some (.string y.nm) ∧ wx.cell? ⟨w3.heap.size, 3, none⟩ = some (.slice A5 y.ks.length c5)) (first | exact (HY.out _ HBB.out).1 | exact (HY.out _ HBA.out).1 | exact (HY.out _ (al HB9.out _)).1 | exact (HY.out _ HB9.out).1 | exact (HY.out _ HB8.out).1 | exact (HY.out _ HB7.out).1 | exact (HY.out _ HB6.out).1 | exact (HY.out _ HB5.out).1 | exact (HY.out _ HDR.out).1) ((first
      | (go_at_call 10; (with_reducible refine (HLV.out _).mono ?_); rintro e wb ⟨rfl, hbb⟩; have HBB := Lib.hid (bt HBA.out hbb); clear hbb)
      | (go_at_call 27; (with_reducible refine (HSO.out w9 (HY.out _ HB9.out).2.1).mono ?_); rintro e wa ⟨rfl, hba⟩; have HBA := Lib.hid (bt (al HB9.out _) hba); clear hba)
      | (go_at_call 27; (with_reducible refine (HYY.out A5 A5 c5 c5 w8 (HY.out _ HB8.out).2.2 (HY.out _ HB8.out).2.2).2.mono ?_); rintro e w9 ⟨rfl, hb9⟩; have HB9 := Lib.hid (bt HB8.out hb9); clear hb9)
      | (go_at_call 25; (with_reducible refine (HS25.out w7 (HY.out _ HB7.out).2.1).mono ?_); rintro e w8 ⟨rfl, hb8⟩; have HB8 := Lib.hid (bt HB7.out hb8); clear hb8)
      | (go_at_call 27; (with_reducible refine (HS27.out w6 (HY.out _ HB6.out).2.1).mono ?_); rintro e w7 ⟨rfl, hb7⟩; have HB7 := Lib.hid (bt HB6.out hb7); clear hb7)
      | (go_at_call 25; (with_reducible refine (HYY.out A5 A6 c5 c6 w5 (HY.out _ HB5.out).2.2 HR6.out).1.mono ?_); rintro e w6 ⟨rfl, hb6⟩; have HB6 := Lib.hid (bt HB5.out hb6); clear hb6)
      | (go_at_call 26; (with_reducible refine (HP2.out _ (HY.out _ HDR.out).2.1).mono ?_); rintro e w5 hgv; obtain ⟨A6, c6, rfl, hR6, hb5⟩ := hgv; have HR6 := Lib.hid (hR6.toR (fun b hb => hb.2)); have HB5 := Lib.hid (bt HDR.out hb5); clear hR6 hb5)))
    all_goals go_wp2
    all_goals go_ret
    all_goals exact ⟨rfl, (HX.out _ (HY.out _ HBB.out).2.1).2.2.2.1⟩
end Go.Proofs.Ytcdpjodnbegepaa
