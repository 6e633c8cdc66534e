/- TermsBounds's walk; layer 30 (terms). -/
import Derived.Test.YtcdpjodnbegepaaFnW
import Derived.Test.YtcdpjodnbegepaaRwt
namespace Go.Proofs.Ytcdpjodnbegepaa
open Go.RowKit Go.PlainAid

theorem bal (w : World) (o : Obj) : Below w.heap.size w (w.alloc o) := (Below.refl _ _).alloc (Nat.le_refl _) o
theorem RepS.one {P : Nat → Prop} {w : World} {b : Nat} {o v : Int} {m : ByteArray} {u : Ex} {A : Option Addr} {c : Nat} (hP : P b) (h : Blk w b 24 (exC u A c)) (hu : RepS P w A u) : RepS P w (some ⟨b, 0, none⟩) (.mk o v m [u]) := by
  refine .mk _ _ (fun _ => A) (fun _ => c) (fun _ => ⟨b, 0, rfl, hP, fun i hi => ?_⟩) (fun i hi => ?_)
  · have h0 : i = 0 := by have : i < 1 := hi; omega
    subst h0
    exact ⟨h.cell 0, h.cell 1, h.cell 2, h.cell 3⟩
  · have h0 : i = 0 := by have : i < 1 := hi; omega
    subst h0
    exact hu
/-- A chain of k nodes at most, held by the variable in block G. -/
def ChainI (G : Nat) (w wr : World) (k : Nat) (x : Ex × Option Addr × Nat) : Prop := Blk wr G 24 (exC x.1 x.2.1 x.2.2) ∧ RepS (fun b => G < b ∧ b < wr.heap.size) wr x.2.1 x.1 ∧ x.1.sz ≤ k ∧ Below G w wr
theorem ChainI.step {G k : Nat} {w wr : World} {x : Ex × Option Addr × Nat} (h : ChainI G w wr k x) :
    ChainI G w (((((wr.setCell ⟨G, 0, none⟩ (.int .i64 5)).setCell ⟨G, 1, none⟩ (.int .i64 0)).setCell ⟨G, 2, none⟩ (.string ⟨#[]⟩)).setCell ⟨G, 3, none⟩ (.slice (some ⟨wr.heap.size, 0, none⟩) 1 1)).alloc (.cells (exC x.1 x.2.1 x.2.2) 24)) (k + 1) (.mk 5 0 ⟨#[]⟩ [x.1], some ⟨wr.heap.size, 0, none⟩, 1) := by
  obtain ⟨h1, h2, h3, h4⟩ := h
  have hG := h1.lt
  obtain ⟨W, hW⟩ : ∃ W, (((wr.setCell ⟨G, 0, none⟩ (.int .i64 5)).setCell ⟨G, 1, none⟩ (.int .i64 0)).setCell ⟨G, 2, none⟩ (.string ⟨#[]⟩)).setCell ⟨G, 3, none⟩ (.slice (some ⟨wr.heap.size, 0, none⟩) 1 1) = W := ⟨_, rfl⟩
  have hz : W.heap.size = wr.heap.size := by rw [← hW]; simp
  have hblk : ∀ b, b ≠ G → W.heap[b]? = wr.heap[b]? := fun b hb => by
    rw [← hW, Below.heap_setCell _ _ _ _ hb, Below.heap_setCell _ _ _ _ hb, Below.heap_setCell _ _ _ _ hb, Below.heap_setCell _ _ _ _ hb]
  have hb1 : Blk W G 24 (exC (.mk 5 0 ⟨#[]⟩ [x.1]) (some ⟨wr.heap.size, 0, none⟩) 1) := by rw [← hW]; exact (((h1.set_ 0 _).set_ 1 _).set_ 2 _).set_ 3 _
  have hb4 : Below G w W := by rw [← hW]; exact (((h4.setCell (Nat.le_refl _) _).setCell (Nat.le_refl _) _).setCell (Nat.le_refl _) _).setCell (Nat.le_refl _) _
  rw [hW]
  clear hW
  refine ⟨hb1.alloc _, ?_, by rw [sz_eq]; show 1 + szL [x.1] ≤ _; simp [szL]; omega, hb4.trans (((Below.refl _ _).alloc (Nat.le_refl _) _).mono (by omega))⟩
  have hn := Blk.new W 24 (exC x.1 x.2.1 x.2.2)
  rw [hz] at hn
  refine RepS.one ⟨hG, by simp; omega⟩ (u := x.1) (A := x.2.1) (c := x.2.2) hn ?_
  exact (h2.kept (fun b hb => (Below.heap_alloc _ _ _ (by have := hb.2; omega)).trans (hblk b (by have := hb.1; omega)))).mono (fun b hb => ⟨hb.1, by have := hb.2; simp; omega⟩)
/-- What is behind the first loop. -/
def E1 (G : Nat) (w w1 : World) (x : Ex × Option Addr × Nat) : Prop := Blk w1 G 24 (exC x.1 x.2.1 x.2.2) ∧ Rep w1.heap.size w1 x.2.1 x.1 ∧ x.1.sz ≤ 100 ∧ Below G w w1
theorem ChainI.out {G k : Nat} {w wr : World} {x : Ex × Option Addr × Nat} (h : ChainI G w wr k x) (hk : k ≤ 70) : E1 G w wr x :=
  ⟨h.1, h.2.1.toR (fun b hb => hb.2), by have := h.2.2.1; omega, h.2.2.2⟩
set_option maxRecDepth 100000 in
set_option maxHeartbeats 8000000 in
theorem termsBounds_walk (a b m : Int) (w : World) (ha : (Lit.int .u8 a).wf = true) (hb : (Lit.int .u8 b).wf = true) (hm : (Lit.int .u16 m).wf = true) : Calls Try.prog 7 #[.int .u8 a, .int .u8 b, .int .u16 m] w (RetT w) := by
  obtain ⟨a0, a1⟩ : 0 ≤ a ∧ a ≤ 255 := by simpa [Lit.wf, IntKind.min, IntKind.max, IntKind.signed, IntKind.bits] using ha
  obtain ⟨b0, b1⟩ : 0 ≤ b ∧ b ≤ 255 := by simpa [Lit.wf, IntKind.min, IntKind.max, IntKind.signed, IntKind.bits] using hb
  obtain ⟨m0, m1⟩ : 0 ≤ m ∧ m ≤ 65535 := by simpa [Lit.wf, IntKind.min, IntKind.max, IntKind.signed, IntKind.bits] using hm
  clear ha hb hm
  obtain ⟨w0, hw0⟩ : ∃ w0, w.alloc (.cells #[.int .i64 2, .int .i64 1, .string ⟨#[]⟩, .slice none 0 0] 24) = w0 := ⟨_, rfl⟩
  obtain ⟨Y, hY⟩ : ∃ Y, w.heap.size = Y := ⟨_, rfl⟩
  have hG : w0.heap.size = Y + 1 := by rw [← hw0, ← hY]; simp
  have hbw : Below w.heap.size w w0 := by rw [← hw0]; exact bal w _
  have HBW := Lib.hid hbw
  have hyes : Blk w0 Y 24 #[.int .i64 2, .int .i64 1, .string ⟨#[]⟩, .slice none 0 0] := by rw [← hw0, ← hY]; exact Blk.new _ _ _
  have HYE : Hid (∀ wx, Below (Y + 1) w0 wx → Blk wx Y 24 #[.int .i64 2, .int .i64 1, .string ⟨#[]⟩, .slice none 0 0]) := Lib.hid (fun wx h => hyes.below h (by omega))
  have HW0 := Lib.hid hw0
  have HYY := Lib.hid hY
  obtain ⟨G, hGG⟩ : ∃ G, Y + 1 = G := ⟨_, rfl⟩
  have hC0 : ChainI G w0 (w0.alloc (.cells #[.int .i64 2, .int .i64 1, .string ⟨#[]⟩, .slice none 0 0] 24)) 1 (.mk 2 1 ⟨#[]⟩ [], none, 0) := by
    rw [← hGG, ← hG]
    exact ⟨Blk.new _ _ _, .mk _ _ (fun _ => none) (fun _ => 0) (fun h => absurd h (by simp [Ex.ks])) (fun i hi => absurd hi (by simp [Ex.ks])), by decide, (Below.refl _ _).alloc (Nat.le_refl _) _⟩
  have HC0 := Lib.hid hC0
  have HGG := Lib.hid hGG
  have HGZ := Lib.hid hG
  clear hG hC0 hw0 hY hbw hyes hGG
  go_enter Try.func7, Try.ntmps7
  go_wp2
  rw [HYY.out, HW0.out, HGG.out]
  go_loopw [9] (fun i wr => ∃ (k : Nat) (x : Ex × Option Addr × Nat), i = .int .i64 (k : Int) ∧ 1 ≤ k ∧ k ≤ 70 ∧ Hid (ChainI G w0 wr k x)) (fun i _ => 70 - (intOf i).toNat)
  case atStart => exact ⟨1, _, rfl, by omega, by omega, HC0⟩
  case round =>
    obtain ⟨k, x, rfl, hk1, hk2, HC⟩ := hrel
    have hmod : a % 70 < 70 := by omega
    obtain ⟨hb1, _, _, _⟩ := HC.out
    have e0 : wr.cell? ⟨G, 0, none⟩ = some (.int .i64 x.1.op) := hb1.cell 0
    have e1 : wr.cell? ⟨G, 1, none⟩ = some (.int .i64 x.1.vr) := hb1.cell 1
    have e2 : wr.cell? ⟨G, 2, none⟩ = some (.string x.1.nm) := hb1.cell 2
    have e3 : wr.cell? ⟨G, 3, none⟩ = some (.slice x.2.1 x.1.ks.length x.2.2) := hb1.cell 3
    have f0 := hb1.frozen 0
    have f1 := hb1.frozen 1
    have f2 := hb1.frozen 2
    have f3 := hb1.frozen 3
    have hl := hb1.lt
    clear hb1
    by_cases hlt : (k : Int) < a % 70
    · have hk3 : k + 1 ≤ 70 := by omega
      go_wp2
      exact ⟨⟨k + 1, _, by go_num, by omega, hk3, Lib.hid HC.out.step⟩, by simp [intOf]; omega⟩
    · have HE := Lib.hid (HC.out.out hk2)
      clear HC HC0 hk1 hk2 e0 e1 e2 e3 f0 f1 f2 f3 hmod
      go_wp2
      obtain ⟨w1, rfl⟩ : ∃ w1, w1 = wr := ⟨_, rfl⟩
      have HM0 : Hid (RowT (w1.alloc (.cells #[] 24)) w1.heap.size (.slice (some ⟨w1.heap.size, 0, none⟩) 0 0) 0 0) := Lib.hid (RowT.made w1)
      have HB0 : Hid (Below w1.heap.size w1 (w1.alloc (.cells #[] 24))) := Lib.hid ((Below.refl _ _).alloc (Nat.le_refl _) _)
      go_loopw [10, 11] (fun v i wr => ∃ k : Nat, i = .int .i64 (k : Int) ∧ k ≤ 70 ∧ Hid (RowT wr w1.heap.size v k k) ∧ Hid (Below w1.heap.size w1 wr)) (fun _ i _ => 70 - (intOf i).toNat)
      case atStart => exact ⟨0, rfl, by omega, HM0, HB0⟩
      case round =>
        obtain ⟨k2, rfl, hk2, HR, HB⟩ := hrel
        have hmod : b % 70 < 70 := by omega
        have hkp : (0 : Int) ≤ (k2 : Int) := by omega
        by_cases hlt2 : (k2 : Int) < b % 70
        · have hk3 : k2 + 1 ≤ 70 := by omega
          have hYc := HYE.out _ (by have := HE.out.2.2.2; rw [HGG.out]; exact this.trans (HB.out.mono (Nat.le_of_lt HE.out.1.lt)))
          have y0 : wr.cell? ⟨Y, 0, none⟩ = some (.int .i64 2) := hYc.cell 0
          have y1 : wr.cell? ⟨Y, 1, none⟩ = some (.int .i64 1) := hYc.cell 1
          have y2 : wr.cell? ⟨Y, 2, none⟩ = some (.string ⟨#[]⟩) := hYc.cell 2
          have y3 : wr.cell? ⟨Y, 3, none⟩ = some (.slice none 0 0) := hYc.cell 3
          have y4 := hYc.lt
          clear hYc
          go_wp2_with (at_builtin; refine wpList_app_ex rfl _ _ rfl wr w1.heap.size k2 k2 u10 rfl HR.out (.mk 2 1 ⟨#[]⟩ []) none 0 rfl ?q1 ?q2 ?q3 ?_)
          case q1 => exact .mk _ _ (fun _ => none) (fun _ => 0) (fun h => absurd h (by simp [Ex.ks])) (fun i hi => absurd hi (by simp [Ex.ks]))
          case q2 => exact HB.out.size
          case q3 => omega
          intro v2 w2 hr2 hb2
          have HR2 := Lib.hid (hr2.more (s' := k2 + 1) (by simp [sz_eq, Ex.ks, szL]))
          have HB2 := Lib.hid (HB.out.trans hb2)
          clear hr2 hb2 HR HB
          go_wp2
          exact ⟨⟨k2 + 1, by go_num, hk3, HR2, HB2⟩, by simp [intOf]; omega⟩
        · go_wp2
          obtain ⟨w2, rfl⟩ : ∃ w2, w2 = wr := ⟨_, rfl⟩
          obtain ⟨A9, c9, t9, rfl, rfl, hr9, s9⟩ := HR.out.tree 7
          have HT9 := Lib.hid (show Rep w2.heap.size w2 A9 (.mk 7 0 ⟨#[]⟩ t9) ∧ (Ex.mk 7 0 ⟨#[]⟩ t9).sz ≤ 100 from ⟨hr9.toR (fun b hb => hb.2), by omega⟩)
          have HR20 : Hid (RowT (w2.alloc (.cells #[] 24)) w2.heap.size (.slice (some ⟨w2.heap.size, 0, none⟩) 0 0) 0 0) := Lib.hid (RowT.made w2)
          have HB20 : Hid (Below w2.heap.size w2 (w2.alloc (.cells #[] 24))) := Lib.hid ((Below.refl _ _).alloc (Nat.le_refl _) _)
          have hm2 : 0 ≤ m % 4200 := by omega
          have hm3 : m % 4200 ≤ 4200 := by omega
          clear hr9 s9 HR
          go_loopw [12, 13] (fun v i wr => ∃ (n : Nat) (l : Int), i = .int .i64 l ∧ 0 ≤ l ∧ l ≤ 4200 ∧ n ≤ 64 ∧ Hid (RowT wr w2.heap.size v n (n * 66)) ∧ Hid (Below w2.heap.size w2 wr)) (fun _ i _ => (intOf i).toNat)
          case atStart => exact ⟨0, _, rfl, hm2, hm3, by omega, HR20, HB20⟩
          case round =>
            obtain ⟨n, l, rfl, l0, l1, hn, HR3, HB3⟩ := hrel
            obtain ⟨A3, c3, rfl⟩ := HR3.out.form
            have hn0 : (0 : Int) ≤ (n : Int) := by omega
            by_cases hc : 1 < l ∧ (n : Int) < 64
            · obtain ⟨hl, hn2⟩ := hc
              obtain ⟨q, hq⟩ : ∃ q : Int, min (l - 1) 64 = q := ⟨_, rfl⟩
              have q0 : 0 ≤ q := by omega
              have q1 : q ≤ 64 := by omega
              have q2 : q ≤ l - 1 := by omega
              go_wp2
              clear hq
              obtain ⟨w3, rfl⟩ : ∃ w3, w3 = wr := ⟨_, rfl⟩
              have HRi : Hid (RowT (w3.alloc (.cells #[] 24)) w3.heap.size (.slice (some ⟨w3.heap.size, 0, none⟩) 0 0) 0 0) := Lib.hid (RowT.made w3)
              have HBi : Hid (Below w3.heap.size w3 (w3.alloc (.cells #[] 24))) := Lib.hid ((Below.refl _ _).alloc (Nat.le_refl _) _)
              go_loopw [15, 16] (fun v i wr => ∃ j : Nat, i = .int .i64 (j : Int) ∧ (j : Int) ≤ q ∧ Hid (RowT wr w3.heap.size v j j) ∧ Hid (Below w3.heap.size w3 wr)) (fun _ i _ => (q - intOf i).toNat)
              case atStart => exact ⟨0, rfl, by omega, HRi, HBi⟩
              case round =>
                obtain ⟨j, rfl, hj, HRj, HBj⟩ := hrel
                have hj0 : (0 : Int) ≤ (j : Int) := by omega
                by_cases hjq : (j : Int) < q
                · have hYc := HYE.out _ (by have := HE.out.2.2.2; rw [HGG.out]; exact this.trans ((bt HB.out (bt HB3.out HBj.out)).mono (Nat.le_of_lt HE.out.1.lt)))
                  have y0 : wr.cell? ⟨Y, 0, none⟩ = some (.int .i64 2) := hYc.cell 0
                  have y1 : wr.cell? ⟨Y, 1, none⟩ = some (.int .i64 1) := hYc.cell 1
                  have y2 : wr.cell? ⟨Y, 2, none⟩ = some (.string ⟨#[]⟩) := hYc.cell 2
                  have y3 : wr.cell? ⟨Y, 3, none⟩ = some (.slice none 0 0) := hYc.cell 3
                  have y4 := hYc.lt
                  clear hYc
                  go_wp2_with (at_builtin; refine wpList_app_ex rfl _ _ rfl wr w3.heap.size j j u15 rfl HRj.out (.mk 2 1 ⟨#[]⟩ []) none 0 rfl ?q1 ?q2 ?q3 ?_)
                  case q1 => exact .mk _ _ (fun _ => none) (fun _ => 0) (fun h => absurd h (by simp [Ex.ks])) (fun i hi => absurd hi (by simp [Ex.ks]))
                  case q2 => exact HBj.out.size
                  case q3 => omega
                  intro v2 w4 hr2 hb2
                  have HR2 := Lib.hid (hr2.more (s' := j + 1) (by simp [sz_eq, Ex.ks, szL]))
                  have HB2 := Lib.hid (HBj.out.trans hb2)
                  clear hr2 hb2 HRj HBj
                  go_wp2
                  exact ⟨⟨j + 1, by go_num, by omega, HR2, HB2⟩, by simp [intOf]; omega⟩
                · have hjq2 : (j : Int) = q := by omega
                  obtain ⟨A14, c14, t14, rfl, rfl, hr14, s14⟩ := HRj.out.tree 6
                  have hb2 := HBj.out
                  have hz2 := HB3.out.size
                  have hz3 := hb2.size
                  have hrow := HR3.out.below hb2
                  have HROW := Lib.hid hrow
                  have HK14 : Hid (RepS (fun x => (w2.heap.size ≤ x ∧ x < wr.heap.size) ∧ (Value.slice A3 n c3).ownBlock ≠ some x) wr A14 (.mk 6 0 ⟨#[]⟩ t14)) := Lib.hid (hr14.mono (fun x hx => ⟨⟨by omega, hx.2⟩, fun e => by
                    have := (HR3.out.own_lt e).2
                    have := hx.1
                    omega⟩))
                  have HB4 := Lib.hid (HB3.out.trans (hb2.mono hz2))
                  have s14' : (Ex.mk 6 0 ⟨#[]⟩ t14).sz ≤ 66 := by omega
                  have HS14 := Lib.hid s14'
                  have hjn : (t14.length : Int) ≤ 64 := by omega
                  clear hr14 s14 hb2 hrow HRj HBj s14'
                  subst hjq2
                  go_wp2_with (at_builtin; refine wpList_app_ex rfl _ _ rfl wr w2.heap.size n (n * 66) (.slice A3 n c3) rfl HROW.out (.mk 6 0 ⟨#[]⟩ t14) A14 c14 rfl HK14.out ?q4 ?q5 ?_)
                  case q4 => omega
                  case q5 => omega
                  intro v2 w4 hr2 hb4
                  have HR5 := Lib.hid (hr2.more (s' := (n + 1) * 66) (by have := HS14.out; omega))
                  have HB5 := Lib.hid (HB4.out.trans hb4)
                  clear hr2 hb4 HROW HK14 HB4 HS14
                  go_wp2
                  exact ⟨⟨n + 1, _, rfl, by omega, by omega, by omega, HR5, HB5⟩, by simp [intOf]; omega⟩
            · obtain ⟨A3', c3', t3, he, rfl, hr3, s3⟩ := HR3.out.tree 7
              obtain ⟨rfl, rfl⟩ : A3 = A3' ∧ c3 = c3' := by cases he; exact ⟨rfl, rfl⟩
              obtain ⟨te, Ae, ce⟩ := x
              obtain ⟨hE1, hE2, hE3, hE4⟩ := HE.out
              have hU : ∀ wx, Below ((wr.alloc (.cells #[.int .i64 7, .int .i64 0, .string ⟨#[]⟩, .slice A9 t9.length c9] 24)).alloc (.cells #[.int .i64 7, .int .i64 0, .string ⟨#[]⟩, .slice A3 t3.length c3] 24)).heap.size ((wr.alloc (.cells #[.int .i64 7, .int .i64 0, .string ⟨#[]⟩, .slice A9 t9.length c9] 24)).alloc (.cells #[.int .i64 7, .int .i64 0, .string ⟨#[]⟩, .slice A3 t3.length c3] 24)) wx →
                  ((wx.cell? ⟨G, 0, none⟩ = some (.int .i64 te.op) ∧ wx.cell? ⟨G, 1, none⟩ = some (.int .i64 te.vr) ∧ wx.cell? ⟨G, 2, none⟩ = some (.string te.nm) ∧ wx.cell? ⟨G, 3, none⟩ = some (.slice Ae te.ks.length ce)) ∧ (wx.cell? ⟨wr.heap.size, 0, none⟩ = some (.int .i64 7) ∧ wx.cell? ⟨wr.heap.size, 1, none⟩ = some (.int .i64 0) ∧ wx.cell? ⟨wr.heap.size, 2, none⟩ = some (.string ⟨#[]⟩) ∧ wx.cell? ⟨wr.heap.size, 3, none⟩ = some (.slice A9 t9.length c9)) ∧ wx.cell? ⟨wr.heap.size + 1, 0, none⟩ = some (.int .i64 7) ∧ wx.cell? ⟨wr.heap.size + 1, 1, none⟩ = some (.int .i64 0) ∧ wx.cell? ⟨wr.heap.size + 1, 2, none⟩ = some (.string ⟨#[]⟩) ∧ wx.cell? ⟨wr.heap.size + 1, 3, none⟩ = some (.slice A3 t3.length c3)) ∧
                  (Rep wx.heap.size wx Ae te ∧ Rep wx.heap.size wx A9 (.mk 7 0 ⟨#[]⟩ t9) ∧ Rep wx.heap.size wx A3 (.mk 7 0 ⟨#[]⟩ t3)) ∧ Below w.heap.size w wx := fun wx hb => by
                have b12 := HB.out
                have b23 := HB3.out
                have ba := bal wr (.cells #[.int .i64 7, .int .i64 0, .string ⟨#[]⟩, .slice A9 t9.length c9] 24)
                have hk1 := Blk.new wr 24 #[.int .i64 7, .int .i64 0, .string ⟨#[]⟩, .slice A9 t9.length c9]
                generalize hV1 : wr.alloc (.cells #[.int .i64 7, .int .i64 0, .string ⟨#[]⟩, .slice A9 t9.length c9] 24) = V1 at *
                have hz1 : V1.heap.size = wr.heap.size + 1 := by rw [← hV1]; simp
                have bb := bal V1 (.cells #[.int .i64 7, .int .i64 0, .string ⟨#[]⟩, .slice A3 t3.length c3] 24)
                have hk2 := Blk.new V1 24 #[.int .i64 7, .int .i64 0, .string ⟨#[]⟩, .slice A3 t3.length c3]
                rw [hz1] at hk2
                have b1 : Below wr.heap.size wr wx := bt ba (bt bb hb)
                have b2 : Below w2.heap.size w2 wx := bt b23 b1
                have b3 : Below w1.heap.size w1 wx := bt b12 b2
                have p1 := hE1.below b3 hE1.lt
                have p2 := (hk1.below bb hk1.lt).below hb (Nat.lt_of_lt_of_le hk1.lt bb.size)
                have p3 := hk2.below hb hk2.lt
                refine ⟨⟨⟨p1.cell 0, p1.cell 1, p1.cell 2, p1.cell 3⟩, ⟨p2.cell 0, p2.cell 1, p2.cell 2, p2.cell 3⟩, p3.cell 0, p3.cell 1, p3.cell 2, p3.cell 3⟩, ⟨hE2.step b3, HT9.out.1.step b2, (hr3.toR (fun b hb => hb.2)).step b1⟩, ?_⟩
                exact HBW.out.trans ((hE4.trans (b3.mono (Nat.le_of_lt hE1.lt))).mono (by have := HBW.out.size; have := HGZ.out; have := HGG.out; omega))
              obtain ⟨W5, hW5⟩ : ∃ W5, (wr.alloc (.cells #[.int .i64 7, .int .i64 0, .string ⟨#[]⟩, .slice A9 t9.length c9] 24)).alloc (.cells #[.int .i64 7, .int .i64 0, .string ⟨#[]⟩, .slice A3 t3.length c3] 24) = W5 := ⟨_, rfl⟩
              have HW5 := Lib.hid hW5
              rw [hW5] at hU
              have HU := Lib.hid hU
              have hs9 := HT9.out.2
              have s3' : (Ex.mk 7 0 ⟨#[]⟩ t3).sz ≤ 5000 := by omega
              have hse : te.sz ≤ 100 := hE3
              obtain ⟨K1, hK1⟩ : ∃ K, chkE te = K := ⟨_, rfl⟩
              obtain ⟨K2, hK2⟩ : ∃ K, chkE (.mk 7 0 ⟨#[]⟩ t9) = K := ⟨_, rfl⟩
              obtain ⟨K3, hK3⟩ : ∃ K, chkE (.mk 7 0 ⟨#[]⟩ t3) = K := ⟨_, rfl⟩
              have P1 : Hid (∀ wx, Below W5.heap.size W5 wx → Calls Try.prog 14 #[.agg #[.int .i64 te.op, .int .i64 te.vr, .string te.nm, .slice Ae te.ks.length ce]] wx fun e w' => e = .returned (.int .i64 K1) ∧ Below wx.heap.size wx w') := Lib.hid (fun wx hb => by rw [← hK1]; exact pr_Check te Ae ce wx (by omega) (hU wx hb).2.1.1)
              have R1 : Hid (∀ wx, Below W5.heap.size W5 wx → Calls Try.prog 15 #[.agg #[.int .i64 te.op, .int .i64 te.vr, .string te.nm, .slice Ae te.ks.length ce]] wx fun e w' => e = .returned (.int .i64 K1) ∧ Below wx.heap.size wx w') := Lib.hid (fun wx hb => by rw [← hK1]; exact rf_Check te Ae ce wx (by omega) (hU wx hb).2.1.1)
              have P2 : Hid (∀ wx, Below W5.heap.size W5 wx → Calls Try.prog 14 #[.agg #[.int .i64 7, .int .i64 0, .string ⟨#[]⟩, .slice A9 t9.length c9]] wx fun e w' => e = .returned (.int .i64 K2) ∧ Below wx.heap.size wx w') := Lib.hid (fun wx hb => by rw [← hK2]; exact pr_Check (.mk 7 0 ⟨#[]⟩ t9) A9 c9 wx (by omega) (hU wx hb).2.1.2.1)
              have R2 : Hid (∀ wx, Below W5.heap.size W5 wx → Calls Try.prog 15 #[.agg #[.int .i64 7, .int .i64 0, .string ⟨#[]⟩, .slice A9 t9.length c9]] wx fun e w' => e = .returned (.int .i64 K2) ∧ Below wx.heap.size wx w') := Lib.hid (fun wx hb => by rw [← hK2]; exact rf_Check (.mk 7 0 ⟨#[]⟩ t9) A9 c9 wx (by omega) (hU wx hb).2.1.2.1)
              have P3 : Hid (∀ wx, Below W5.heap.size W5 wx → Calls Try.prog 14 #[.agg #[.int .i64 7, .int .i64 0, .string ⟨#[]⟩, .slice A3 t3.length c3]] wx fun e w' => e = .returned (.int .i64 K3) ∧ Below wx.heap.size wx w') := Lib.hid (fun wx hb => by rw [← hK3]; exact pr_Check (.mk 7 0 ⟨#[]⟩ t3) A3 c3 wx (by omega) (hU wx hb).2.1.2.2)
              have R3 : Hid (∀ wx, Below W5.heap.size W5 wx → Calls Try.prog 15 #[.agg #[.int .i64 7, .int .i64 0, .string ⟨#[]⟩, .slice A3 t3.length c3]] wx fun e w' => e = .returned (.int .i64 K3) ∧ Below wx.heap.size wx w') := Lib.hid (fun wx hb => by rw [← hK3]; exact rf_Check (.mk 7 0 ⟨#[]⟩ t3) A3 c3 wx (by omega) (hU wx hb).2.1.2.2)
              have P8 : Hid (∀ wx, Calls Try.prog 10 #[] wx (RetT wx)) := Lib.hid law_lives
              have HB00 : Hid (Below W5.heap.size W5 W5.drew) := Lib.hid (Below.refl _ _).drew
              have hor : ¬ 1 < l ∨ (1 < l ∧ ¬ (t3.length : Int) < 64) := by omega
              clear hU hE1 hE2 hE3 hE4 hse HE hr3 s3 s3' hs9 hK1 hK2 hK3 hW5 he HR3 HB3 HB HT9 hc hn l1 HR20 HB20 HM0 HB0
              rcases hor with hl | ⟨hl, hn2⟩
              all_goals
                go_wp2
                rw [HW5.out]
                obtain ⟨S9, hS9⟩ : ∃ S9, wr.heap.size = S9 := ⟨_, rfl⟩
                rw [hS9] at HU ⊢
                clear hS9
                go_region_held3 (fun wx => (wx.cell? ⟨G, 0, none⟩ = some (.int .i64 te.op) ∧ wx.cell? ⟨G, 1, none⟩ = some (.int .i64 te.vr) ∧ wx.cell? ⟨G, 2, none⟩ = some (.string te.nm) ∧ wx.cell? ⟨G, 3, none⟩ = some (.slice Ae te.ks.length ce)) ∧ (wx.cell? ⟨S9, 0, none⟩ = some (.int .i64 7) ∧ wx.cell? ⟨S9, 1, none⟩ = some (.int .i64 0) ∧ wx.cell? ⟨S9, 2, none⟩ = some (.string ⟨#[]⟩) ∧ wx.cell? ⟨S9, 3, none⟩ = some (.slice A9 t9.length c9)) ∧ wx.cell? ⟨S9 + 1, 0, none⟩ = some (.int .i64 7) ∧ wx.cell? ⟨S9 + 1, 1, none⟩ = some (.int .i64 0) ∧ wx.cell? ⟨S9 + 1, 2, none⟩ = some (.string ⟨#[]⟩) ∧ wx.cell? ⟨S9 + 1, 3, none⟩ = some (.slice A3 t3.length c3)) (first
                  | exact (HU.out _ HD7.out).1
                  | exact (HU.out _ HD6.out).1
                  | exact (HU.out _ HD5.out).1
                  | exact (HU.out _ HD4.out).1
                  | exact (HU.out _ HD3.out).1
                  | exact (HU.out _ HD2.out).1
                  | exact (HU.out _ HD1.out).1
                  | exact (HU.out _ HB00.out).1) (first
                  | (go_at_call 10; (with_reducible refine (P8.out _).mono ?_); rintro e x7 ⟨rfl, hb⟩; have HD7 := Lib.hid (bt HD6.out hb); clear hb)
                  | (go_at_call 15; (with_reducible refine (R3.out _ HD5.out).mono ?_); rintro e x6 ⟨rfl, hb⟩; have HD6 := Lib.hid (bt HD5.out hb); clear hb)
                  | (go_at_call 14; (with_reducible refine (P3.out _ HD4.out).mono ?_); rintro e x5 ⟨rfl, hb⟩; have HD5 := Lib.hid (bt HD4.out hb); clear hb)
                  | (go_at_call 15; (with_reducible refine (R2.out _ HD3.out).mono ?_); rintro e x4 ⟨rfl, hb⟩; have HD4 := Lib.hid (bt HD3.out hb); clear hb)
                  | (go_at_call 14; (with_reducible refine (P2.out _ HD2.out).mono ?_); rintro e x3 ⟨rfl, hb⟩; have HD3 := Lib.hid (bt HD2.out hb); clear hb)
                  | (go_at_call 15; (with_reducible refine (R1.out _ HD1.out).mono ?_); rintro e x2 ⟨rfl, hb⟩; have HD2 := Lib.hid (bt HD1.out hb); clear hb)
                  | (go_at_call 14; (with_reducible refine (P1.out _ HB00.out).mono ?_); rintro e x1 ⟨rfl, hb⟩; have HD1 := Lib.hid (bt HB00.out hb); clear hb))
                all_goals go_wp2
                all_goals (go_ret; exact ⟨rfl, (HU.out _ HD7.out).2.2⟩)
end Go.Proofs.Ytcdpjodnbegepaa
