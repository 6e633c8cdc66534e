/- Parts and All of the specification; layer 32 (forms). -/
import Derived.Test.YtnjkphopklbogaaQc
import Derived.Test.YtnjkphopklbogaaMc
namespace Go.Proofs.Ytnjkphopklbogaa
open Go.RowKit

abbrev At7 (wx : World) (g : Nat) (t : Fx) (E : Option Addr) (dd : Nat) (A : Option Addr) (c : Nat) : Prop := wx.cell? ⟨g, 0, none⟩ = some (.int .i64 t.op) ∧ wx.cell? ⟨g, 1, none⟩ = some (.int .i64 t.e.op) ∧ wx.cell? ⟨g, 2, none⟩ = some (.int .i64 t.e.vr) ∧ wx.cell? ⟨g, 3, none⟩ = some (.string t.e.nm) ∧ wx.cell? ⟨g, 4, none⟩ = some (.slice E t.e.ks.length dd) ∧ wx.cell? ⟨g, 5, none⟩ = some (.slice A t.ks.length c)
set_option maxHeartbeats 4000000 in
theorem rf_Parts (t : Fx) (E A : Option Addr) (dd c : Nat) (w : World) (hs : t.sz ≤ 10000000) (hR : Fm w.heap.size w t E A) : Calls Try.prog 25 #[fV t E dd A c] w (PrtP (dedF (prtF t)) w) := by
  obtain ⟨W0, hW0⟩ : ∃ W, w.alloc (.cells (fC t E dd A c) 27) = W := ⟨_, rfl⟩
  have hb0 : Below w.heap.size w W0 := by rw [← hW0]; exact bal _ _
  have hk0 : Blk W0 w.heap.size 27 (fC t E dd A c) := by rw [← hW0]; exact Blk.new _ _ _
  have HC : Hid (Calls Try.prog 10 #[fV t E dd A c] W0 fun e w' => e = .returned (.int .i64 (chkF t)) ∧ Below W0.heap.size W0 w') := Lib.hid (rf_fCheck t E A dd c W0 (by omega) (hR.step hb0))
  have HX : Hid (∀ wx, Below W0.heap.size W0 wx → At7 wx w.heap.size t E dd A c ∧ Calls Try.prog 52 #[fV t E dd A c, .slice none 0 0] wx (PrtP (dedF (preF t)) wx)) := Lib.hid (fun wx hb => by
    have h := hk0.below hb hk0.lt
    refine ⟨⟨h.cell 0, h.cell 1, h.cell 2, h.cell 3, h.cell 4, h.cell 5⟩, ?_⟩
    refine (rf_parts t.sz t (Nat.le_refl _) hs wx.heap.size wx.heap.size E A dd c [] none 0 wx (Nat.le_refl _) (Nat.le_refl _) ((hR.step hb0).step hb) (RowG.nil _ _ _) (fun u hu => by cases hu) (by show 0 + t.sz ≤ _; omega)).mono ?_
    rintro e w' ⟨A2, c2, rfl, hr, hf, _⟩
    exact ⟨A2, c2, rfl, (hr.tree 0 ex0 rfl).toR (fun x hx => hx.2), hf.below2 (fun k _ h => by cases h) (Nat.le_refl _)⟩)
  have HW0 := Lib.hid hW0
  have HB0 := Lib.hid hb0
  obtain ⟨p0, p1, p2, p3, p4, p5⟩ := (HX.out W0 (Below.refl _ _)).1
  by_cases hc : chkF t = 0
  · rw [show prtF t = preF t from if_neg (by simpa using hc)]
    rw [hc] at HC
    generalize dedF (preF t) = D at *
    clear hc hW0 hb0 hk0 hR hs
    go_enter Try.func25, Try.ntmps25
    go_upto_region 1 with (fail)
    rw [HW0.out]
    go_wp2_with (first
      | (go_at_call 52; have _ := HB1; (with_reducible refine ((HX.out _ HB1.out).2).mono ?_); rintro e w2 ⟨A2, c2, rfl, hr2, hb2⟩; have HR2 := Lib.hid hr2; have HB2 := Lib.hid (bt HB0.out (bt HB1.out hb2)); clear hr2 hb2)
      | (go_at_call 10; (with_reducible refine HC.out.mono ?_); rintro e w1 ⟨rfl, hb1⟩; obtain ⟨r0, r1, r2, r3, r4, r5⟩ := (HX.out _ hb1).1; have HB1 := Lib.hid hb1; clear hb1))
    go_ret
    exact ⟨A2, c2, rfl, HR2.out, HB2.out⟩
  · rw [show prtF t = [] from if_pos hc]
    obtain ⟨z, hz⟩ : ∃ z, chkF t = z := ⟨_, rfl⟩
    rw [hz] at HC hc
    have hz2 : (z != 0) = true := by simp [hc]
    clear HX hc hz hW0 hb0 hk0 hR hs
    go_enter Try.func25, Try.ntmps25
    go_upto_region 1 with (fail)
    rw [HW0.out]
    go_wp2_with (go_at_call 10; (with_reducible refine HC.out.mono ?_); rintro e w1 ⟨rfl, hb1⟩; have HB1 := Lib.hid (bt HB0.out hb1); clear hb1)
    go_ret
    exact ⟨none, 0, rfl, RepF.leaf rfl, HB1.out⟩
set_option maxRecDepth 100000 in
set_option maxHeartbeats 4000000 in
theorem rf_All (l : List Fx) (A B : Option Addr) (c d : Nat) (w : World) (hA : RepF w.heap.size w A (.mk 0 ex0 l)) (hB : RepF w.heap.size w B (.mk 0 ex0 l)) (hl : l.length ≤ 1000000000) (hs : ∀ u, u ∈ l → u.sz ≤ 10000000) :
    Calls Try.prog 23 #[.slice A l.length c, .slice B l.length d] w (ValP w true) := by
  have HA := Lib.hid hA
  have HB := Lib.hid hB
  have HS := Lib.hid hs
  obtain ⟨n, hn⟩ : ∃ n, l.length = n := ⟨_, rfl⟩
  have HN : Hid (n = l.length) := Lib.hid hn.symm
  rw [hn] at hl ⊢
  have g1 : ((n : Int) != (n : Int)) = false := by simp
  clear hA hB hs hn
  go_enter Try.func23, Try.ntmps23
  go_wp2
  go_loopw [5] (fun i wr => ∃ k : Nat, k ≤ n ∧ i = .int .i64 (k : Int) ∧ Hid (Below w.heap.size w wr)) (fun i _ => n - (intOf i).toNat)
  case atStart => exact ⟨0, Nat.zero_le _, rfl, Lib.hid (Below.refl _ _)⟩
  case round =>
    obtain ⟨k, hk, rfl, HW⟩ := hrel
    have k0 : (0 : Int) ≤ (k : Int) := by omega
    by_cases hlt : k < n
    · have k1 : (k : Int) < (n : Int) := by omega
      have hkl : k < l.length := by rw [← HN.out]; exact hlt
      obtain ⟨b, f, rfl, hb, hc⟩ := HA.out.out (by show 0 < l.length; omega)
      obtain ⟨ea, ec, ka, kc, hat, r0, r1⟩ := hc k hkl
      obtain ⟨b2, f2, rfl, hb2, hc2⟩ := HB.out.out (by show 0 < l.length; omega)
      obtain ⟨ea2, ec2, ka2, kc2, hat2, q0, q1⟩ := hc2 k hkl
      have HSS : Hid (∀ wx, Below w.heap.size w wx → C6 wx b (f + k * 6) (fkd l k) ea ec ka kc ∧ C6 wx b2 (f2 + k * 6) (fkd l k) ea2 ec2 ka2 kc2) := Lib.hid (fun wx hx => by
        have h1 := hat.turn (w' := wx) (fun o => World.cell?_of_block (a := ⟨b, o, none⟩) (hx.block b hb))
        have h2 := hat2.turn (w' := wx) (fun o => World.cell?_of_block (a := ⟨b2, o, none⟩) (hx.block b2 hb2))
        exact ⟨⟨h1.c0, h1.c1, h1.c2, h1.c3, h1.c4, h1.c5⟩, ⟨h2.c0, h2.c1, h2.c2, h2.c3, h2.c4, h2.c5⟩⟩)
      have HC : Hid (∀ wx, Below w.heap.size w wx → Calls Try.prog 20 #[fV (fkd l k) ea ec ka kc, fV (fkd l k) ea2 ec2 ka2 kc2] wx (ValP wx true)) := Lib.hid (fun wx hx => by
        have hsz := HS.out _ (fkd_mem hkl)
        have h := rf_fSame (fkd l k).sz (fkd l k) (Nat.le_refl _) (by omega) (fkd l k) (by omega) ea ec ka kc ea2 ec2 ka2 kc2 wx (Fm.step ⟨r0, r1⟩ hx) (Fm.step ⟨q0, q1⟩ hx)
        rw [eqF_refl] at h
        exact h)
      have HDR : Hid (Below w.heap.size w wr.drew) := Lib.hid HW.out.drew
      generalize fkd l k = x1 at *
      clear hat hat2 r0 r1 q0 q1 hc hc2 hb hb2 hkl
      go_upto_region 6 with (fail)
      go_region_held3 (fun wx => C6 wx b (f + k * 6) x1 ea ec ka kc ∧ C6 wx b2 (f2 + k * 6) x1 ea2 ec2 ka2 kc2) (first
        | with_reducible exact HSS.out _ HB2.out
        | with_reducible exact HSS.out _ HDR.out
        | with_reducible exact HSS.out _ HW.out
        | exact HSS.out _ HDR.out
        | exact HSS.out _ HW.out) ((go_at_call 20; (with_reducible refine (HC.out _ HDR.out).mono ?_); rintro e w2 ⟨rfl, hb3⟩; have HB2 := Lib.hid (HDR.out.trans (hb3.mono HDR.out.size)); clear hb3))
      go_wp2
      go_roundw
      case rel => exact ⟨k + 1, by omega, by go_num, HB2⟩
      case measure => simp [intOf]; try omega
    · have k1 : ¬ (k : Int) < (n : Int) := by omega
      go_wp2
      go_ret
      exact ⟨rfl, HW.out⟩
end Go.Proofs.Ytnjkphopklbogaa
