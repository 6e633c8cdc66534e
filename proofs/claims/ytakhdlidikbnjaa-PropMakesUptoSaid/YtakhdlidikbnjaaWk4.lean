/- PropMakes's walk; layer 6 (prop). -/
import Derived.Test.YtakhdlidikbnjaaFnX
import Derived.Test.YtakhdlidikbnjaaMono
namespace Go.Proofs.Ytakhdlidikbnjaa
open Go.RowKit Go.PlainAid

/-- What the two boxes hold. -/
def Box2 (G H : Nat) (a : Ex) (Aa : Option Addr) (ca : Nat) (b : Ex) (Ab : Option Addr) (cb : Nat) (wx : World) : Prop :=
  (wx.cell? ⟨G, 0, none⟩ = some (.int .i64 a.op) ∧ wx.cell? ⟨G, 1, none⟩ = some (.int .i64 a.vr) ∧ wx.cell? ⟨G, 2, none⟩ = some (.slice Aa a.ks.length ca)) ∧
  wx.cell? ⟨H, 0, none⟩ = some (.int .i64 b.op) ∧ wx.cell? ⟨H, 1, none⟩ = some (.int .i64 b.vr) ∧ wx.cell? ⟨H, 2, none⟩ = some (.slice Ab b.ks.length cb)
def mkD : Nat → Nat
  | 0 => 19 | 1 => 20 | 2 => 21 | 3 => 22 | 4 => 23 | 5 => 24 | 6 => 25 | 7 => 26 | 8 => 27 | 9 => 7 | 10 => 8 | _ => 0
def mkF (B0 : Nat) (a b : Ex) (Aa Ab : Option Addr) (ca cb : Nat) (lo hi : Nat → Nat) (i : Nat) (v : Value) (w : World) : Prop :=
  if i = 0 ∨ i = 2 ∨ i = 6 then v = .agg #[.int .i64 a.op, .int .i64 a.vr, .slice Aa a.ks.length ca]
  else if i = 1 ∨ i = 5 then v = .agg #[.int .i64 b.op, .int .i64 b.vr, .slice Ab b.ks.length cb]
  else if i = 3 then ∃ g, v = .slice (some ⟨g, 0, none⟩) 3 3 ∧ Blk w g 24 #[.int .i64 a.op, .int .i64 a.vr, .slice Aa a.ks.length ca, .int .i64 b.op, .int .i64 b.vr, .slice Ab b.ks.length cb, .int .i64 a.op, .int .i64 a.vr, .slice Aa a.ks.length ca] ∧ lo 3 ≤ g ∧ g < hi 3
  else if i = 4 then ∃ A c, v = .agg #[.int .i64 5, .int .i64 0, .slice A 3 c] ∧ RepS (fun x => (x < B0 ∨ (lo 3 ≤ x ∧ x < hi 3) ∨ (lo 4 ≤ x ∧ x < hi 4)) ∧ x < w.heap.size) w A (.mk 5 0 [a, b, a])
  else if i = 7 then ∃ g, v = .slice (some ⟨g, 0, none⟩) 2 2 ∧ Blk w g 24 #[.int .i64 b.op, .int .i64 b.vr, .slice Ab b.ks.length cb, .int .i64 a.op, .int .i64 a.vr, .slice Aa a.ks.length ca] ∧ lo 7 ≤ g ∧ g < hi 7
  else if i = 8 then ∃ A c, v = .agg #[.int .i64 6, .int .i64 0, .slice A 2 c] ∧ RepS (fun x => (x < B0 ∨ (lo 7 ≤ x ∧ x < hi 7) ∨ (lo 8 ≤ x ∧ x < hi 8)) ∧ x < w.heap.size) w A (.mk 6 0 [b, a])
  else ∃ g, v = .pointer (some ⟨g, 0, none⟩) ∧ Blk w g 24 #[.int .i64 0, .int .i64 0, .slice none 0 0] ∧ lo i ≤ g ∧ g < hi i
theorem repS_grow {p : Nat → Prop} {w w' : World} {A : Option Addr} {t : Ex} (h : RepS (fun x => p x ∧ x < w.heap.size) w A t) (hb : Below w.heap.size w w') : RepS (fun x => p x ∧ x < w'.heap.size) w' A t :=
  (h.kept (fun b hbb => hb.block b hbb.2)).mono (fun b hbb => ⟨hbb.1, Nat.lt_of_lt_of_le hbb.2 hb.size⟩)
theorem mkF_stable (B0 : Nat) (a b : Ex) (Aa Ab : Option Addr) (ca cb : Nat) (lo hi : Nat → Nat) (i : Nat) (v : Value) (w w' : World) (h : mkF B0 a b Aa Ab ca cb lo hi i v w) (hb : Below w.heap.size w w') : mkF B0 a b Aa Ab ca cb lo hi i v w' := by
  unfold mkF at h ⊢
  split at h
  · rename_i h1; rw [if_pos h1]; exact h
  · rename_i h1; rw [if_neg h1]
    split at h
    · rename_i h2; rw [if_pos h2]; exact h
    · rename_i h2; rw [if_neg h2]
      split at h
      · rename_i h3; rw [if_pos h3]; obtain ⟨g, e, k, q⟩ := h; exact ⟨g, e, k.below hb k.lt, q⟩
      · rename_i h3; rw [if_neg h3]
        split at h
        · rename_i h4; rw [if_pos h4]; obtain ⟨A, c, e, k⟩ := h; exact ⟨A, c, e, repS_grow k hb⟩
        · rename_i h4; rw [if_neg h4]
          split at h
          · rename_i h5; rw [if_pos h5]; obtain ⟨g, e, k, q⟩ := h; exact ⟨g, e, k.below hb k.lt, q⟩
          · rename_i h5; rw [if_neg h5]
            split at h
            · rename_i h6; rw [if_pos h6]; obtain ⟨A, c, e, k⟩ := h; exact ⟨A, c, e, repS_grow k hb⟩
            · rename_i h6; rw [if_neg h6]; obtain ⟨g, e, k, q⟩ := h; exact ⟨g, e, k.below hb k.lt, q⟩
theorem mkF_loc {md : Region.Mode} {ops : Array Oper} (B0 : Nat) (a b : Ex) (Aa Ab : Option Addr) (ca cb : Nat) (h34 : (predsM md ops 4).contains 3 = true) (h78 : (predsM md ops 8).contains 7 = true) (lo hi lo' hi' : Nat → Nat) (i : Nat) (v : Value) (w : World) (e1 : lo i = lo' i) (e2 : hi i = hi' i)
    (e3 : ∀ k ∈ predsM md ops i, lo k = lo' k ∧ hi k = hi' k) (h : mkF B0 a b Aa Ab ca cb lo hi i v w) : mkF B0 a b Aa Ab ca cb lo' hi' i v w := by
  unfold mkF at h ⊢
  split at h
  · rename_i h1; rw [if_pos h1]; exact h
  · rename_i h1; rw [if_neg h1]
    split at h
    · rename_i h2; rw [if_pos h2]; exact h
    · rename_i h2; rw [if_neg h2]
      split at h
      · rename_i h3; rw [if_pos h3]; subst h3; rw [← e1, ← e2]; exact h
      · rename_i h3; rw [if_neg h3]
        split at h
        · rename_i h4; rw [if_pos h4]; subst h4
          obtain ⟨q1, q2⟩ := e3 3 (by simpa using h34)
          rw [← e1, ← e2, ← q1, ← q2]; exact h
        · rename_i h4; rw [if_neg h4]
          split at h
          · rename_i h5; rw [if_pos h5]; subst h5; rw [← e1, ← e2]; exact h
          · rename_i h5; rw [if_neg h5]
            split at h
            · rename_i h6; rw [if_pos h6]; subst h6
              obtain ⟨q1, q2⟩ := e3 7 (by simpa using h78)
              rw [← e1, ← e2, ← q1, ← q2]; exact h
            · rename_i h6; rw [if_neg h6, ← e1, ← e2]; exact h
theorem repS_row {p : Nat → Prop} {w : World} {g : Nat} {o : Int} {ks : List Ex} (ka : Nat → Option Addr) (kc : Nat → Nat) (hg : p g) (hc : ∀ j u, (csOf ks ka kc)[j]? = some u → w.cell? ⟨g, j, none⟩ = some u) (hk : ∀ i, i < ks.length → RepS p w (ka i) (kd ks i)) : RepS p w (some ⟨g, 0, none⟩) (.mk o 0 ks) := by
  refine .mk _ _ ka kc (fun _ => ⟨g, 0, rfl, hg, fun i hi => ?_⟩) hk
  obtain ⟨c0, c1, c2⟩ := csOf_get (ka := ka) (kc := kc) hi
  have hat : ∀ j u, (csOf ks ka kc)[j]? = some u → w.cell? ⟨g, 0 + j, none⟩ = some u := fun j u h => by rw [Nat.zero_add]; exact hc j u h
  exact ⟨hat _ _ c0, hat _ _ c1, hat _ _ c2⟩
def MadeS (B0 g : Nat) (w : World) (t : Ex) (n : Nat) (o : Int) (e : Ending) (w' : World) : Prop := ∃ A c, e = .returned (.agg #[.int .i64 o, .int .i64 0, .slice A n c]) ∧ RepS (fun x => ((x < B0 ∨ x = g) ∨ w.heap.size ≤ x) ∧ x < w'.heap.size) w' A t ∧ Below w.heap.size w w'
theorem c_and3 (a b : Ex) (Aa Ab : Option Addr) (ca cb g B0 : Nat) (w : World) (hB : B0 ≤ w.heap.size) (ha : RepS (· < B0) w Aa a) (hb : RepS (· < B0) w Ab b) (sa : a.sz ≤ 400) (sb : b.sz ≤ 400)
    (h : Blk w g 24 #[.int .i64 a.op, .int .i64 a.vr, .slice Aa a.ks.length ca, .int .i64 b.op, .int .i64 b.vr, .slice Ab b.ks.length cb, .int .i64 a.op, .int .i64 a.vr, .slice Aa a.ks.length ca]) :
    Calls Try.prog 17 #[.slice (some ⟨g, 0, none⟩) 3 3] w (MadeS B0 g w (.mk 5 0 [a, b, a]) 3 5) := by
  have hR : RepS (fun x => x < B0 ∨ x = g) w (some ⟨g, 0, none⟩) (.mk 5 0 [a, b, a]) := by
    refine repS_row (fun i => if i = 1 then Ab else Aa) (fun i => if i = 1 then cb else ca) (.inr rfl) (fun j u hj => ?_) (fun i hi => ?_)
    · rw [h.cell j]
      have e : csOf [a, b, a] (fun i => if i = 1 then Ab else Aa) (fun i => if i = 1 then cb else ca) = [.int .i64 a.op, .int .i64 a.vr, .slice Aa a.ks.length ca, .int .i64 b.op, .int .i64 b.vr, .slice Ab b.ks.length cb, .int .i64 a.op, .int .i64 a.vr, .slice Aa a.ks.length ca] := rfl
      rw [e] at hj
      simpa using hj
    · have hi2 : i < 3 := hi
      rcases (show i = 0 ∨ i = 1 ∨ i = 2 by omega) with rfl | rfl | rfl
      · exact ha.mono (fun x hx => .inl hx)
      · exact hb.mono (fun x hx => .inl hx)
      · exact ha.mono (fun x hx => .inl hx)
  have hsz : (Ex.mk 5 0 [a, b, a]).sz = 1 + (a.sz + (b.sz + a.sz)) := by rw [sz_eq]; show 1 + (a.sz + (b.sz + (a.sz + 0))) = _; omega
  have hlt := h.lt
  refine (pr_And (fun x => x < B0 ∨ x = g) (.mk 5 0 [a, b, a]) rfl rfl _ 3 w (by omega) hR (fun x hx => by omega)).mono ?_
  rintro e w' ⟨A, c, rfl, hr, hb⟩
  exact ⟨A, c, rfl, hr, hb⟩
theorem c_or2 (b a : Ex) (Ab Aa : Option Addr) (cb ca g B0 : Nat) (w : World) (hB : B0 ≤ w.heap.size) (hb : RepS (· < B0) w Ab b) (ha : RepS (· < B0) w Aa a) (sb : b.sz ≤ 400) (sa : a.sz ≤ 400)
    (h : Blk w g 24 #[.int .i64 b.op, .int .i64 b.vr, .slice Ab b.ks.length cb, .int .i64 a.op, .int .i64 a.vr, .slice Aa a.ks.length ca]) :
    Calls Try.prog 18 #[.slice (some ⟨g, 0, none⟩) 2 2] w (MadeS B0 g w (.mk 6 0 [b, a]) 2 6) := by
  have hR : RepS (fun x => x < B0 ∨ x = g) w (some ⟨g, 0, none⟩) (.mk 6 0 [b, a]) := by
    refine repS_row (fun i => if i = 0 then Ab else Aa) (fun i => if i = 0 then cb else ca) (.inr rfl) (fun j u hj => ?_) (fun i hi => ?_)
    · rw [h.cell j]
      have e : csOf [b, a] (fun i => if i = 0 then Ab else Aa) (fun i => if i = 0 then cb else ca) = [.int .i64 b.op, .int .i64 b.vr, .slice Ab b.ks.length cb, .int .i64 a.op, .int .i64 a.vr, .slice Aa a.ks.length ca] := rfl
      rw [e] at hj
      simpa using hj
    · have hi2 : i < 2 := hi
      rcases (show i = 0 ∨ i = 1 by omega) with rfl | rfl
      · exact hb.mono (fun x hx => .inl hx)
      · exact ha.mono (fun x hx => .inl hx)
  have hlt := h.lt
  refine (pr_Or (fun x => x < B0 ∨ x = g) (.mk 6 0 [b, a]) rfl rfl _ 2 w (by rw [sz_two]; omega) hR (fun x hx => by omega)).mono ?_
  rintro e w' ⟨A, c, rfl, hr, hb⟩
  exact ⟨A, c, rfl, hr, hb⟩
theorem c_same (t : Ex) (hs : t.sz ≤ 100000000) (A B : Option Addr) (c d : Nat) (w : World) (hA : Rep w.heap.size w A t) (hB : Rep w.heap.size w B t) : Calls Try.prog 19 #[exV t A c, exV t B d] w (ValP w true) := by
  have h := rf_Same t.sz t (Nat.le_refl _) hs t hs A B c d w hA hB
  rwa [sm_refl] at h
theorem sm_not (a : Ex) : sm a (.mk 4 0 [a]) = false := by
  cases e : sm a (.mk 4 0 [a]) with
  | false => rfl
  | true =>
    have h := (sm_true _ _).1 e
    have h2 : a.sz = (Ex.mk 4 0 [a]).sz := congrArg Ex.sz h
    have h3 : (Ex.mk 4 0 [a]).sz = 1 + (a.sz + 0) := rfl
    omega
theorem one_in (w : World) (a : Ex) (A : Option Addr) (c g : Nat) (hb : Blk w g 24 #[.int .i64 a.op, .int .i64 a.vr, .slice A a.ks.length c]) (ha : Rep w.heap.size w A a) : Rep w.heap.size w (some ⟨g, 0, none⟩) (.mk 4 0 [a]) := by
  refine rep_row (fun _ => A) (fun _ => c) hb.lt (fun j u hj => ?_) (fun i hi => ?_)
  · rw [hb.cell j]
    have e : csOf [a] (fun _ => A) (fun _ => c) = [.int .i64 a.op, .int .i64 a.vr, .slice A a.ks.length c] := rfl
    rw [e] at hj
    simpa using hj
  · have hi2 : i < 1 := hi
    obtain rfl : i = 0 := by omega
    exact ha
set_option maxRecDepth 100000 in
set_option maxHeartbeats 8000000 in
theorem propMakes_walk (a : Ex) (Aa : Option Addr) (ca : Nat) (b : Ex) (Ab : Option Addr) (cb : Nat) (v : Int) (w : World) (hRa : Rep w.heap.size w Aa a) (sa : a.sz ≤ 1048576) (hRb : Rep w.heap.size w Ab b) (sb : b.sz ≤ 1048576)
    (_hv : (Lit.int .i64 v).wf = true) : Calls Try.prog 5 #[exV a Aa ca, exV b Ab cb, .int .i64 v] w (RetT w) := by
  obtain ⟨W1, hW1⟩ : ∃ W1, w.alloc (.cells (exC a Aa ca) 24) = W1 := ⟨_, rfl⟩
  obtain ⟨W0, hW0⟩ : ∃ W0, W1.alloc (.cells (exC b Ab cb) 24) = W0 := ⟨_, rfl⟩
  have hb1 : Below w.heap.size w W1 := by rw [← hW1]; exact bal _ _
  have hb0 : Below W1.heap.size W1 W0 := by rw [← hW0]; exact bal _ _
  have hz1 : W1.heap.size = w.heap.size + 1 := by rw [← hW1]; simp
  have hk1 : Blk W1 w.heap.size 24 (exC a Aa ca) := by rw [← hW1]; exact Blk.new _ _ _
  have hk2 : Blk W0 (w.heap.size + 1) 24 (exC b Ab cb) := by rw [← hW0, ← hz1]; exact Blk.new _ _ _
  have hU : ∀ wx, Below W0.heap.size W0 wx → Box2 w.heap.size (w.heap.size + 1) a Aa ca b Ab cb wx ∧ (Rep wx.heap.size wx Aa a ∧ Rep wx.heap.size wx Ab b) ∧ Below w.heap.size w wx := fun wx hb => by
    have p1 := (hk1.below hb0 hk1.lt).below hb (Nat.lt_of_lt_of_le hk1.lt hb0.size)
    have p2 := hk2.below hb hk2.lt
    have hw := bt hb1 (bt hb0 hb)
    exact ⟨⟨⟨p1.cell 0, p1.cell 1, p1.cell 2⟩, p2.cell 0, p2.cell 1, p2.cell 2⟩, ⟨hRa.step hw, hRb.step hw⟩, hw⟩
  obtain ⟨G, hG⟩ : ∃ G, w.heap.size = G := ⟨_, rfl⟩
  have hGl : G + 1 < W0.heap.size := by rw [← hG, ← hz1, ← hW0]; simp
  have HW : Hid ((w.alloc (.cells (exC a Aa ca) 24)).alloc (.cells (exC b Ab cb) 24) = W0) := Lib.hid (by rw [hW1, hW0])
  have HG := Lib.hid hG
  rw [hG] at hU
  have HU := Lib.hid hU
  obtain ⟨B1, hB1⟩ : ∃ B, lightB a = B := ⟨_, rfl⟩
  obtain ⟨B2, hB2⟩ : ∃ B, lightB b = B := ⟨_, rfl⟩
  have P7a : Hid (∀ wx, Below W0.heap.size W0 wx → Calls Try.prog 7 #[.agg #[.int .i64 a.op, .int .i64 a.vr, .slice Aa a.ks.length ca]] wx (ValP wx B1)) := Lib.hid (fun wx hb => by rw [← hB1]; exact law_Light a Aa ca wx (by omega) (hU wx hb).2.1.1)
  have P7b : Hid (∀ wx, Below W0.heap.size W0 wx → Calls Try.prog 7 #[.agg #[.int .i64 b.op, .int .i64 b.vr, .slice Ab b.ks.length cb]] wx (ValP wx B2)) := Lib.hid (fun wx hb => by rw [← hB2]; exact law_Light b Ab cb wx (by omega) (hU wx hb).2.1.2)
  have P8 : Hid (∀ wx, Calls Try.prog 8 #[] wx (RetT wx)) := Lib.hid law_lives
  have HM : Hid (B1 = true → B2 = true → a.sz ≤ 400 ∧ b.sz ≤ 400) := Lib.hid (by
    intro h1 h2
    subst h1 h2
    have f : ∀ t, lightB t = true → t.sz ≤ 400 := fun t h1 => by
      unfold lightB at h1
      simp only [Bool.and_eq_true, decide_eq_true_eq] at h1
      exact h1.1
    exact ⟨f a hB1, f b hB2⟩)
  have HB0 : Hid (Below W0.heap.size W0 W0) := Lib.hid (Below.refl _ _)
  obtain ⟨⟨e0, e1, e2⟩, e3, e4, e5⟩ := (hU W0 (Below.refl _ _)).1
  clear hRa hRb hW1 hW0 hb1 hb0 hz1 hk1 hk2 hU hB1 hB2 sa sb hG
  go_enter Try.func5, Try.ntmps5
  go_upto_region 1 with (fail)
  rw [HW.out, HG.out]
  clear HW
  rcases B1 with _ | _
  · go_wp2_with (first
      | (go_at_call 8; (with_reducible refine (P8.out _).mono ?_); rintro e y8 ⟨rfl, hb⟩; have HE := Lib.hid (bt HC1.out hb); clear hb)
      | (go_at_call 7; (with_reducible refine (P7a.out _ HB0.out).mono ?_); rintro e y1 ⟨rfl, hb⟩; have HC1 := Lib.hid (bt HB0.out hb); clear hb))
    go_ret
    exact ⟨rfl, by rw [HG.out]; exact (HU.out _ HE.out).2.2⟩
  rcases B2 with _ | _
  · go_wp2_with (first
      | (go_at_call 8; (with_reducible refine (P8.out _).mono ?_); rintro e y8 ⟨rfl, hb⟩; have HE := Lib.hid (bt HC2.out hb); clear hb)
      | (go_at_call 7; (with_reducible refine (P7b.out _ HC1.out).mono ?_); rintro e y2 ⟨rfl, hb⟩; have HC2 := Lib.hid (bt HC1.out hb); clear hb)
      | (go_at_call 7; (with_reducible refine (P7a.out _ HB0.out).mono ?_); rintro e y1 ⟨rfl, hb⟩; have HC1 := Lib.hid (bt HB0.out hb); clear hb e0 e1 e2 e3 e4 e5; obtain ⟨⟨e0, e1, e2⟩, e3, e4, e5⟩ := (HU.out _ HC1.out).1))
    go_ret
    exact ⟨rfl, by rw [HG.out]; exact (HU.out _ HE.out).2.2⟩
  go_upto_region 3 with (first
      | (go_at_call 7; (with_reducible refine (P7b.out _ HC1.out).mono ?_); rintro e y2 ⟨rfl, hb⟩; have HC2 := Lib.hid (bt HC1.out hb); clear hb)
      | (go_at_call 7; (with_reducible refine (P7a.out _ HB0.out).mono ?_); rintro e y1 ⟨rfl, hb⟩; have HC1 := Lib.hid (bt HB0.out hb); clear hb e0 e1 e2 e3 e4 e5; obtain ⟨⟨e0, e1, e2⟩, e3, e4, e5⟩ := (HU.out _ HC1.out).1))
  obtain ⟨la, lb'⟩ := HM.out (by first | rfl | trivial) (by first | rfl | trivial)
  clear e0 e1 e2 e3 e4 e5
  refine wp_region_any (by kernel_rfl) ?_
  change wpAny _ _ _ _ _ _ _ y2.drew
  have hru : RepS (· < y2.drew.heap.size) y2.drew Aa a ∧ RepS (· < y2.drew.heap.size) y2.drew Ab b := ⟨(HU.out _ HC2.out.drew).2.1.1.toS, (HU.out _ HC2.out.drew).2.1.2.toS⟩
  have HUm : Hid (∀ wx, Below y2.drew.heap.size y2.drew wx → Box2 G (G + 1) a Aa ca b Ab cb wx ∧ (RepS (· < y2.drew.heap.size) wx Aa a ∧ RepS (· < y2.drew.heap.size) wx Ab b) ∧ Below G w wx) := Lib.hid (fun wx hb => ⟨(HU.out _ (bt HC2.out.drew hb)).1, ⟨hru.1.kept (fun b hbb => hb.block b hbb), hru.2.kept (fun b hbb => hb.block b hbb)⟩, (HU.out _ (bt HC2.out.drew hb)).2.2⟩)
  refine wpAny_monoB 13 11 2 mkD (mkF y2.drew.heap.size a b Aa Ab ca cb) _ _ _ rfl (by omega) (by kernel_rfl) (by kernel_rfl) (by kernel_rfl) (by kernel_rfl) (by kernel_rfl) (by kernel_rfl) (mkF_stable y2.drew.heap.size a b Aa Ab ca cb) (mkF_loc y2.drew.heap.size a b Aa Ab ca cb (by kernel_rfl) (by kernel_rfl)) ?hstep ?hend
  case hend =>
    intro vs lo up w1 hF hiv hdist hb
    have f0 : vs 0 = _ := hF 0 (by omega)
    have f1 : vs 1 = _ := hF 1 (by omega)
    have f2 : vs 2 = _ := hF 2 (by omega)
    obtain ⟨g3, f3, _⟩ : ∃ g, vs 3 = .slice (some ⟨g, 0, none⟩) 3 3 ∧ _ := hF 3 (by omega)
    obtain ⟨A4, c4, f4, r4⟩ : ∃ A c, vs 4 = .agg #[.int .i64 5, .int .i64 0, .slice A 3 c] ∧ RepS (fun x => (x < y2.drew.heap.size ∨ (lo 3 ≤ x ∧ x < up 3) ∨ (lo 4 ≤ x ∧ x < up 4)) ∧ x < w1.heap.size) w1 A (.mk 5 0 [a, b, a]) := hF 4 (by omega)
    have f5 : vs 5 = _ := hF 5 (by omega)
    have f6 : vs 6 = _ := hF 6 (by omega)
    obtain ⟨g7, f7, _⟩ : ∃ g, vs 7 = .slice (some ⟨g, 0, none⟩) 2 2 ∧ _ := hF 7 (by omega)
    obtain ⟨A8, c8, f8, r8⟩ : ∃ A c, vs 8 = .agg #[.int .i64 6, .int .i64 0, .slice A 2 c] ∧ RepS (fun x => (x < y2.drew.heap.size ∨ (lo 7 ≤ x ∧ x < up 7) ∨ (lo 8 ≤ x ∧ x < up 8)) ∧ x < w1.heap.size) w1 A (.mk 6 0 [b, a]) := hF 8 (by omega)
    obtain ⟨g9, f9, k9, q9, q9'⟩ : ∃ g, vs 9 = .pointer (some ⟨g, 0, none⟩) ∧ Blk w1 g 24 #[.int .i64 0, .int .i64 0, .slice none 0 0] ∧ lo 9 ≤ g ∧ g < up 9 := hF 9 (by omega)
    obtain ⟨g10, f10, k10, q10, q10'⟩ : ∃ g, vs 10 = .pointer (some ⟨g, 0, none⟩) ∧ Blk w1 g 24 #[.int .i64 0, .int .i64 0, .slice none 0 0] ∧ lo 10 ≤ g ∧ g < up 10 := hF 10 (by omega)
    have d1 := hdist 9 10 (by omega) (by omega) (by omega)
    have d2 := hdist 9 3 (by omega) (by omega) (by omega)
    have d3 := hdist 9 4 (by omega) (by omega) (by omega)
    have d4 := hdist 9 7 (by omega) (by omega) (by omega)
    have d5 := hdist 9 8 (by omega) (by omega) (by omega)
    have d6 := hdist 10 3 (by omega) (by omega) (by omega)
    have d7 := hdist 10 4 (by omega) (by omega) (by omega)
    have d8 := hdist 10 7 (by omega) (by omega) (by omega)
    have d9 := hdist 10 8 (by omega) (by omega) (by omega)
    have i9 := hiv 9 (by omega)
    have i10 := hiv 10 (by omega)
    have hne : g9 ≠ g10 := by omega
    have hB9 : y2.drew.heap.size ≤ g9 := by omega
    have hB10 : y2.drew.heap.size ≤ g10 := by omega
    have R4 : Hid (RepS (fun x => (x ≠ g9 ∧ x ≠ g10) ∧ x < w1.heap.size) w1 A4 (.mk 5 0 [a, b, a])) := Lib.hid (r4.mono (fun x hx => ⟨⟨by omega, by omega⟩, hx.2⟩))
    have R8 : Hid (RepS (fun x => (x ≠ g9 ∧ x ≠ g10) ∧ x < w1.heap.size) w1 A8 (.mk 6 0 [b, a])) := Lib.hid (r8.mono (fun x hx => ⟨⟨by omega, by omega⟩, hx.2⟩))
    simp only [setAll, mkD, f0, f1, f2, f3, f4, f5, f6, f7, f8, f9, f10, List.setIfInBounds_toArray, List.set_cons_zero, List.set_cons_succ]
    clear hF hdist hiv f0 f1 f2 f3 f4 f5 f6 f7 f8 f9 f10 d1 d2 d3 d4 d5 d6 d7 d8 d9 i9 i10 r4 r8 q9 q9' q10 q10'
    have e0 : w1.cell? ⟨g9, 0, none⟩ = some (.int .i64 0) := k9.cell 0
    have e1 : w1.cell? ⟨g9, 1, none⟩ = some (.int .i64 0) := k9.cell 1
    have e2 : w1.cell? ⟨g9, 2, none⟩ = some (.slice none 0 0) := k9.cell 2
    have e3 := k9.frozen 0
    have e4 := k9.frozen 1
    have e5 := k9.frozen 2
    have H9 := Lib.hid k9
    have H10 := Lib.hid k10
    have HBW := Lib.hid hb
    clear k9 k10 hb
    refine wpAny_ready (rs := [11]) (by kernel_rfl) (by simp) ?_
    refine AllReady.cons rfl (fun K hK => ?_) AllReady.nil
    go_simp
    refine hK _ _ ?_
    clear hK K
    have m9 := ((H9.out.set_ 0 (.int .i64 5)).set_ 1 (.int .i64 0)).set_ 2 (.slice A4 3 c4)
    have m10 := ((H10.out.set_other (b := g9) hne 0 (.int .i64 5)).set_other (b := g9) hne 1 (.int .i64 0)).set_other (b := g9) hne 2 (.slice A4 3 c4)
    have mb := ((HBW.out.setCell (p := ⟨g9, 0, none⟩) hB9 (.int .i64 5)).setCell (p := ⟨g9, 1, none⟩) hB9 (.int .i64 0)).setCell (p := ⟨g9, 2, none⟩) hB9 (.slice A4 3 c4)
    have mh : ∀ x, x ≠ g9 → (((w1.setCell ⟨g9, 0, none⟩ (.int .i64 5)).setCell ⟨g9, 1, none⟩ (.int .i64 0)).setCell ⟨g9, 2, none⟩ (.slice A4 3 c4)).heap[x]? = w1.heap[x]? := fun x hx => by
      rw [Below.heap_setCell _ _ _ _ hx, Below.heap_setCell _ _ _ _ hx, Below.heap_setCell _ _ _ _ hx]
    have mz : (((w1.setCell ⟨g9, 0, none⟩ (.int .i64 5)).setCell ⟨g9, 1, none⟩ (.int .i64 0)).setCell ⟨g9, 2, none⟩ (.slice A4 3 c4)).heap.size = w1.heap.size := by simp
    generalize ((w1.setCell ⟨g9, 0, none⟩ (.int .i64 5)).setCell ⟨g9, 1, none⟩ (.int .i64 0)).setCell ⟨g9, 2, none⟩ (.slice A4 3 c4) = w2 at *
    clear e0 e1 e2 e3 e4 e5
    have e0 : w2.cell? ⟨g10, 0, none⟩ = some (.int .i64 0) := m10.cell 0
    have e1 : w2.cell? ⟨g10, 1, none⟩ = some (.int .i64 0) := m10.cell 1
    have e2 : w2.cell? ⟨g10, 2, none⟩ = some (.slice none 0 0) := m10.cell 2
    have e3 := m10.frozen 0
    have e4 := m10.frozen 1
    have e5 := m10.frozen 2
    have M9 := Lib.hid m9
    have M10 := Lib.hid m10
    have MB := Lib.hid mb
    have MH := Lib.hid mh
    have MZ := Lib.hid mz
    clear m9 m10 mb mh mz
    refine wpAny_ready (rs := [12]) (by kernel_rfl) (by simp) ?_
    refine AllReady.cons rfl (fun K hK => ?_) AllReady.nil
    go_simp
    refine hK _ _ ?_
    clear hK K
    refine wpAny_done (by kernel_rfl) ?_ _
    have HF : Hid (∀ W, W = ((w2.setCell ⟨g10, 0, none⟩ (.int .i64 6)).setCell ⟨g10, 1, none⟩ (.int .i64 0)).setCell ⟨g10, 2, none⟩ (.slice A8 2 c8) → Blk W g9 24 #[.int .i64 5, .int .i64 0, .slice A4 3 c4] ∧ Blk W g10 24 #[.int .i64 6, .int .i64 0, .slice A8 2 c8] ∧ Below y2.drew.heap.size y2.drew W ∧ Rep W.heap.size W A4 (.mk 5 0 [a, b, a]) ∧ Rep W.heap.size W A8 (.mk 6 0 [b, a])) := Lib.hid (by
      rintro W rfl
      have hh : ∀ x, x ≠ g10 → (((w2.setCell ⟨g10, 0, none⟩ (.int .i64 6)).setCell ⟨g10, 1, none⟩ (.int .i64 0)).setCell ⟨g10, 2, none⟩ (.slice A8 2 c8)).heap[x]? = w2.heap[x]? := fun x hx => by
        rw [Below.heap_setCell _ _ _ _ hx, Below.heap_setCell _ _ _ _ hx, Below.heap_setCell _ _ _ _ hx]
      have hz : (((w2.setCell ⟨g10, 0, none⟩ (.int .i64 6)).setCell ⟨g10, 1, none⟩ (.int .i64 0)).setCell ⟨g10, 2, none⟩ (.slice A8 2 c8)).heap.size = w1.heap.size := by rw [← MZ.out]; simp
      refine ⟨((M9.out.set_other (Ne.symm hne) _ _).set_other (Ne.symm hne) _ _).set_other (Ne.symm hne) _ _, ((M10.out.set_ 0 _).set_ 1 _).set_ 2 _, ((MB.out.setCell hB10 _).setCell hB10 _).setCell hB10 _, ?_, ?_⟩
      · exact (R4.out.kept (fun x hx => (hh x hx.1.2).trans (MH.out x hx.1.1))).toR (fun x hx => by rw [hz]; exact hx.2)
      · exact (R8.out.kept (fun x hx => (hh x hx.1.2).trans (MH.out x hx.1.1))).toR (fun x hx => by rw [hz]; exact hx.2))
    have HF2 := Lib.hid (HF.out _ rfl)
    generalize ((w2.setCell ⟨g10, 0, none⟩ (.int .i64 6)).setCell ⟨g10, 1, none⟩ (.int .i64 0)).setCell ⟨g10, 2, none⟩ (.slice A8 2 c8) = W3 at *
    clear HF e0 e1 e2 e3 e4 e5 M9 M10 MB MH MZ H9 H10 HBW R4 R8
    obtain ⟨m9, m10, mb, mr4, mr8⟩ := HF2.out
    have hT : ∀ wx, Below W3.heap.size W3 wx → (((wx.cell? ⟨G, 0, none⟩ = some (.int .i64 a.op) ∧ wx.cell? ⟨G, 1, none⟩ = some (.int .i64 a.vr) ∧ wx.cell? ⟨G, 2, none⟩ = some (.slice Aa a.ks.length ca)) ∧ wx.cell? ⟨G + 1, 0, none⟩ = some (.int .i64 b.op) ∧ wx.cell? ⟨G + 1, 1, none⟩ = some (.int .i64 b.vr) ∧ wx.cell? ⟨G + 1, 2, none⟩ = some (.slice Ab b.ks.length cb)) ∧ (wx.cell? ⟨g9, 0, none⟩ = some (.int .i64 5) ∧ wx.cell? ⟨g9, 1, none⟩ = some (.int .i64 0) ∧ wx.cell? ⟨g9, 2, none⟩ = some (.slice A4 3 c4)) ∧ wx.cell? ⟨g10, 0, none⟩ = some (.int .i64 6) ∧ wx.cell? ⟨g10, 1, none⟩ = some (.int .i64 0) ∧ wx.cell? ⟨g10, 2, none⟩ = some (.slice A8 2 c8)) ∧ ((Rep wx.heap.size wx Aa a ∧ Rep wx.heap.size wx Ab b) ∧ Rep wx.heap.size wx A4 (.mk 5 0 [a, b, a]) ∧ Rep wx.heap.size wx A8 (.mk 6 0 [b, a])) ∧ Below G w wx := fun wx hx => by
      have p9 := m9.below hx m9.lt
      have p10 := m10.below hx m10.lt
      have q := bt HC2.out.drew (bt mb hx)
      exact ⟨⟨(HU.out _ q).1, ⟨p9.cell 0, p9.cell 1, p9.cell 2⟩, p10.cell 0, p10.cell 1, p10.cell 2⟩, ⟨(HU.out _ q).2.1, mr4.step hx, mr8.step hx⟩, (HU.out _ q).2.2⟩
    have hsx : (Ex.mk 5 0 [a, b, a]).sz ≤ 2000 := by rw [sz_eq]; show 1 + (a.sz + (b.sz + (a.sz + 0))) ≤ _; omega
    have hsy : (Ex.mk 6 0 [b, a]).sz ≤ 2000 := by rw [sz_two]; omega
    have hsn : (Ex.mk 4 0 [a]).sz ≤ 2000 := by rw [sz_eq]; show 1 + (a.sz + 0) ≤ _; omega
    have S1 : Hid (∀ W, Below W3.heap.size W3 W → Calls Try.prog 19 #[.agg #[.int .i64 5, .int .i64 0, .slice A4 3 c4], .agg #[.int .i64 5, .int .i64 0, .slice (some ⟨W.heap.size, 0, none⟩) 3 3]] (W.alloc (.cells #[.int .i64 a.op, .int .i64 a.vr, .slice Aa a.ks.length ca, .int .i64 b.op, .int .i64 b.vr, .slice Ab b.ks.length cb, .int .i64 a.op, .int .i64 a.vr, .slice Aa a.ks.length ca] 24)) (ValP W true)) := Lib.hid (fun W hW => by
      have hk := Blk.new W 24 #[.int .i64 a.op, .int .i64 a.vr, .slice Aa a.ks.length ca, .int .i64 b.op, .int .i64 b.vr, .slice Ab b.ks.length cb, .int .i64 a.op, .int .i64 a.vr, .slice Aa a.ks.length ca]
      have ha := (hT W hW).2.1.1.1.step (bal W (.cells #[.int .i64 a.op, .int .i64 a.vr, .slice Aa a.ks.length ca, .int .i64 b.op, .int .i64 b.vr, .slice Ab b.ks.length cb, .int .i64 a.op, .int .i64 a.vr, .slice Aa a.ks.length ca] 24))
      have hb := (hT W hW).2.1.1.2.step (bal W (.cells #[.int .i64 a.op, .int .i64 a.vr, .slice Aa a.ks.length ca, .int .i64 b.op, .int .i64 b.vr, .slice Ab b.ks.length cb, .int .i64 a.op, .int .i64 a.vr, .slice Aa a.ks.length ca] 24))
      have hR : Rep (W.alloc (.cells #[.int .i64 a.op, .int .i64 a.vr, .slice Aa a.ks.length ca, .int .i64 b.op, .int .i64 b.vr, .slice Ab b.ks.length cb, .int .i64 a.op, .int .i64 a.vr, .slice Aa a.ks.length ca] 24)).heap.size (W.alloc (.cells #[.int .i64 a.op, .int .i64 a.vr, .slice Aa a.ks.length ca, .int .i64 b.op, .int .i64 b.vr, .slice Ab b.ks.length cb, .int .i64 a.op, .int .i64 a.vr, .slice Aa a.ks.length ca] 24)) (some ⟨W.heap.size, 0, none⟩) (.mk 5 0 [a, b, a]) := by
        refine rep_row (fun i => if i = 1 then Ab else Aa) (fun i => if i = 1 then cb else ca) hk.lt (fun j u hj => ?_) (fun i hi => ?_)
        · rw [hk.cell j]
          have e : csOf [a, b, a] (fun i => if i = 1 then Ab else Aa) (fun i => if i = 1 then cb else ca) = [.int .i64 a.op, .int .i64 a.vr, .slice Aa a.ks.length ca, .int .i64 b.op, .int .i64 b.vr, .slice Ab b.ks.length cb, .int .i64 a.op, .int .i64 a.vr, .slice Aa a.ks.length ca] := rfl
          rw [e] at hj
          simpa using hj
        · have hi2 : i < 3 := hi
          rcases (show i = 0 ∨ i = 1 ∨ i = 2 by omega) with rfl | rfl | rfl
          · exact ha
          · exact hb
          · exact ha
      exact (c_same (.mk 5 0 [a, b, a]) (by omega) A4 (some ⟨W.heap.size, 0, none⟩) c4 3 _ ((hT W hW).2.1.2.1.step (bal _ _)) hR).mono fun e w' ⟨h1, h2⟩ => ⟨h1, bt (bal W _) h2⟩)
    have S2 : Hid (∀ W, Below W3.heap.size W3 W → Calls Try.prog 19 #[.agg #[.int .i64 6, .int .i64 0, .slice A8 2 c8], .agg #[.int .i64 6, .int .i64 0, .slice (some ⟨W.heap.size, 0, none⟩) 2 2]] (W.alloc (.cells #[.int .i64 b.op, .int .i64 b.vr, .slice Ab b.ks.length cb, .int .i64 a.op, .int .i64 a.vr, .slice Aa a.ks.length ca] 24)) (ValP W true)) := Lib.hid (fun W hW =>
      (c_same (.mk 6 0 [b, a]) (by omega) A8 (some ⟨W.heap.size, 0, none⟩) c8 2 _ ((hT W hW).2.1.2.2.step (bal _ _)) (two_in 6 b a Ab Aa cb ca W (hT W hW).2.1.1.2 (hT W hW).2.1.1.1)).mono fun e w' ⟨h1, h2⟩ => ⟨h1, bt (bal W _) h2⟩)
    have S3A : Hid (∀ u A c, Below W3.heap.size W3 u → Rep u.heap.size u A (.mk 4 0 [a]) → Calls Try.prog 19 #[.agg #[.int .i64 4, .int .i64 0, .slice A 1 c], .agg #[.int .i64 4, .int .i64 0, .slice (some ⟨u.heap.size, 0, none⟩) 1 1]] (u.alloc (.cells #[.int .i64 a.op, .int .i64 a.vr, .slice Aa a.ks.length ca] 24)) (ValP u true)) := Lib.hid (fun u A c hu hr =>
      (c_same (.mk 4 0 [a]) (by omega) A (some ⟨u.heap.size, 0, none⟩) c 1 _ (hr.step (bal _ _)) (one_in _ a Aa ca _ (Blk.new _ _ _) ((hT u hu).2.1.1.1.step (bal _ _)))).mono fun e w' ⟨h1, h2⟩ => ⟨h1, bt (bal u _) h2⟩)
    have S3B : Hid (∀ u A c g, Below W3.heap.size W3 u → Rep u.heap.size u A (.mk 4 0 [a]) → Blk u g 24 #[.int .i64 a.op, .int .i64 a.vr, .slice Aa a.ks.length ca] → Calls Try.prog 19 #[.agg #[.int .i64 4, .int .i64 0, .slice A 1 c], .agg #[.int .i64 4, .int .i64 0, .slice (some ⟨g, 0, none⟩) 1 1]] u (ValP u true)) := Lib.hid (fun u A c g hu hr hk =>
      c_same (.mk 4 0 [a]) (by omega) A (some ⟨g, 0, none⟩) c 1 _ hr (one_in _ a Aa ca _ hk (hT u hu).2.1.1.1))
    have S4 : Hid (∀ u, Calls Try.prog 19 #[.agg #[.int .i64 3, .int .i64 v, .slice none 0 0], .agg #[.int .i64 3, .int .i64 v, .slice none 0 0]] u (ValP u true)) := Lib.hid (fun u => c_same (.mk 3 v []) (by show 1 + 0 ≤ _; omega) none none 0 0 u (Rep.leaf rfl) (Rep.leaf rfl))
    obtain ⟨q, hq⟩ : ∃ q, sm a b = q := ⟨_, rfl⟩
    have S5 : Hid (∀ u, Below W3.heap.size W3 u → Calls Try.prog 22 #[.agg #[.int .i64 a.op, .int .i64 a.vr, .slice Aa a.ks.length ca], .agg #[.int .i64 b.op, .int .i64 b.vr, .slice Ab b.ks.length cb]] u (ValP u q)) := Lib.hid (fun u hu => by rw [← hq]; exact pr_Same a.sz a (Nat.le_refl _) (by omega) b (by omega) Aa Ab ca cb u (hT u hu).2.1.1.1 (hT u hu).2.1.1.2)
    have S6 : Hid (∀ u, Below W3.heap.size W3 u → Calls Try.prog 19 #[.agg #[.int .i64 a.op, .int .i64 a.vr, .slice Aa a.ks.length ca], .agg #[.int .i64 b.op, .int .i64 b.vr, .slice Ab b.ks.length cb]] u (ValP u q)) := Lib.hid (fun u hu => by rw [← hq]; exact rf_Same a.sz a (Nat.le_refl _) (by omega) b (by omega) Aa Ab ca cb u (hT u hu).2.1.1.1 (hT u hu).2.1.1.2)
    have S7 : Hid (∀ u, Below W3.heap.size W3 u → Calls Try.prog 22 #[.agg #[.int .i64 5, .int .i64 0, .slice A4 3 c4], .agg #[.int .i64 5, .int .i64 0, .slice A4 3 c4]] u (ValP u true)) := Lib.hid (fun u hu => by
      have h := pr_Same _ (.mk 5 0 [a, b, a]) (Nat.le_refl _) (by omega) (.mk 5 0 [a, b, a]) (by omega) A4 A4 c4 c4 u (hT u hu).2.1.2.1 (hT u hu).2.1.2.1
      rw [sm_refl] at h
      exact h)
    have S8 : Hid (∀ u A c, Below W3.heap.size W3 u → Rep u.heap.size u A (.mk 4 0 [a]) → Calls Try.prog 22 #[.agg #[.int .i64 a.op, .int .i64 a.vr, .slice Aa a.ks.length ca], .agg #[.int .i64 4, .int .i64 0, .slice A 1 c]] u (ValP u false)) := Lib.hid (fun u A c hu hr => by
      have h := pr_Same a.sz a (Nat.le_refl _) (by omega) (.mk 4 0 [a]) (by omega) Aa A ca c u (hT u hu).2.1.1.1 hr
      rw [sm_not] at h
      exact h)
    have Pnot : Hid (∀ u, Below W3.heap.size W3 u → Calls Try.prog 20 #[.agg #[.int .i64 a.op, .int .i64 a.vr, .slice Aa a.ks.length ca]] u (MadeP u (.mk 4 0 [a]) 1 4)) := Lib.hid (fun u hu => c_not a Aa ca u (by omega) (hT u hu).2.1.1.1)
    have HT := Lib.hid hT
    have HT0 : Hid (Below W3.heap.size W3 W3) := Lib.hid (Below.refl _ _)
    have hqq : (q == q) = true := by simp
    clear hT hsx hsy hsn m9 m10 mb mr4 mr8 HF2 hq HUm hru hne hB9 hB10 la lb' HM P7a P7b HB0
    obtain ⟨⟨⟨e0, e1, e2⟩, e3, e4, e5⟩, ⟨e6, e7, e8⟩, e9, e10, e11⟩ := (HT.out _ HT0.out).1
    go_upto_region 5 with (first
      | (go_at_call 19; (with_reducible refine (S2.out z1 HZ1.out).mono ?_); rintro e z2 ⟨rfl, hb⟩; have HZ2 := Lib.hid (bt HZ1.out hb); clear hb; clear e0 e1 e2 e3 e4 e5 e6 e7 e8 e9 e10 e11; obtain ⟨⟨⟨e0, e1, e2⟩, e3, e4, e5⟩, ⟨e6, e7, e8⟩, e9, e10, e11⟩ := (HT.out _ HZ2.out).1)
      | (go_at_call 19; (with_reducible refine (S1.out W3 HT0.out).mono ?_); rintro e z1 ⟨rfl, hb⟩; have HZ1 := Lib.hid (bt HT0.out hb); clear hb; clear e0 e1 e2 e3 e4 e5 e6 e7 e8 e9 e10 e11; obtain ⟨⟨⟨e0, e1, e2⟩, e3, e4, e5⟩, ⟨e6, e7, e8⟩, e9, e10, e11⟩ := (HT.out _ HZ1.out).1))
    have HZd := Lib.hid (HZ2.out.drew)
    have HZa : Hid (Below W3.heap.size W3 (z2.alloc (.cells #[.int .i64 a.op, .int .i64 a.vr, .slice Aa a.ks.length ca] 24)).drew) := Lib.hid (bt HZ2.out (bal _ _)).drew
    have HBk : Hid (Blk (z2.alloc (.cells #[.int .i64 a.op, .int .i64 a.vr, .slice Aa a.ks.length ca] 24)).drew z2.heap.size 24 #[.int .i64 a.op, .int .i64 a.vr, .slice Aa a.ks.length ca]) := Lib.hid (Blk.new z2 24 #[.int .i64 a.op, .int .i64 a.vr, .slice Aa a.ks.length ca])
    clear e0 e1 e2 e3 e4 e5 e6 e7 e8 e9 e10 e11
    go_region_held3 (fun wx => wx.cell? ⟨G, 0, none⟩ = some (.int .i64 a.op) ∧ wx.cell? ⟨G, 1, none⟩ = some (.int .i64 a.vr) ∧ wx.cell? ⟨G, 2, none⟩ = some (.slice Aa a.ks.length ca)) (first
      | exact (HT.out _ HV7.out).1.1.1
      | exact (HT.out _ HV6.out).1.1.1
      | exact (HT.out _ HV5.out).1.1.1
      | exact (HT.out _ (bt HU1.out (bal _ _))).1.1.1
      | exact (HT.out _ HU1.out).1.1.1
      | exact (HT.out _ HUB.out).1.1.1
      | exact (HT.out _ HZa.out).1.1.1
      | exact (HT.out _ HZd.out).1.1.1) (first
      | (go_at_call 19; (with_reducible refine (S4.out v6).mono ?_); rintro e v7 ⟨rfl, hb⟩; have HV7 := Lib.hid (bt HV6.out hb); clear hb)
      | (go_at_call 21; (with_reducible refine (av v5 v).mono ?_); rintro e v6 ⟨rfl, hb⟩; have HV6 := Lib.hid (bt HV5.out hb); clear hb)
      | (go_at_call 19; (with_reducible refine (S3A.out u1 An cn HU1.out HRn.out).mono ?_); rintro e v5 ⟨rfl, hb⟩; have HV5 := Lib.hid (bt HU1.out hb); clear hb)
      | (go_at_call 19; (with_reducible refine (S3B.out uB An cn z2.heap.size HUB.out HRn.out HBB.out).mono ?_); rintro e v5 ⟨rfl, hb⟩; have HV5 := Lib.hid (bt HUB.out hb); clear hb)
      | (go_at_call 20; (with_reducible refine (Pnot.out (z2.alloc _).drew HZa.out).mono ?_); rintro e uB ⟨An, cn, rfl, hr, hb⟩; have HUB := Lib.hid (bt HZa.out hb); have HRn := Lib.hid hr; have HBB := Lib.hid (HBk.out.below hb HBk.out.lt); clear hr hb)
      | (go_at_call 20; (with_reducible refine (Pnot.out z2.drew HZd.out).mono ?_); rintro e u1 ⟨An, cn, rfl, hr, hb⟩; have HU1 := Lib.hid (bt HZd.out hb); have HRn := Lib.hid hr; clear hr hb))
    all_goals
      go_upto_region 6 with (fail)
      have HVd := Lib.hid (HV7.out.drew)
      go_region_held3 (fun wx => ((wx.cell? ⟨G, 0, none⟩ = some (.int .i64 a.op) ∧ wx.cell? ⟨G, 1, none⟩ = some (.int .i64 a.vr) ∧ wx.cell? ⟨G, 2, none⟩ = some (.slice Aa a.ks.length ca)) ∧ wx.cell? ⟨G + 1, 0, none⟩ = some (.int .i64 b.op) ∧ wx.cell? ⟨G + 1, 1, none⟩ = some (.int .i64 b.vr) ∧ wx.cell? ⟨G + 1, 2, none⟩ = some (.slice Ab b.ks.length cb)) ∧ (wx.cell? ⟨g9, 0, none⟩ = some (.int .i64 5) ∧ wx.cell? ⟨g9, 1, none⟩ = some (.int .i64 0) ∧ wx.cell? ⟨g9, 2, none⟩ = some (.slice A4 3 c4))) (first
        | exact ⟨(HT.out _ HX6.out).1.1, (HT.out _ HX6.out).1.2.1⟩
        | exact ⟨(HT.out _ HX5.out).1.1, (HT.out _ HX5.out).1.2.1⟩
        | exact ⟨(HT.out _ HX4.out).1.1, (HT.out _ HX4.out).1.2.1⟩
        | exact ⟨(HT.out _ HX3.out).1.1, (HT.out _ HX3.out).1.2.1⟩
        | exact ⟨(HT.out _ HX2.out).1.1, (HT.out _ HX2.out).1.2.1⟩
        | exact ⟨(HT.out _ HX1.out).1.1, (HT.out _ HX1.out).1.2.1⟩
        | exact ⟨(HT.out _ HVd.out).1.1, (HT.out _ HVd.out).1.2.1⟩) (first
        | (go_at_call 8; (with_reducible refine (P8.out x5).mono ?_); rintro e x6 ⟨rfl, hb⟩; have HX6 := Lib.hid (bt HX5.out hb); clear hb)
        | (go_at_call 22; (with_reducible refine (S8.out x4 Am cm HX4.out HRm.out).mono ?_); rintro e x5 ⟨rfl, hb⟩; have HX5 := Lib.hid (bt HX4.out hb); clear hb)
        | (go_at_call 20; (with_reducible refine (Pnot.out x3 HX3.out).mono ?_); rintro e x4 ⟨Am, cm, rfl, hr, hb⟩; have HX4 := Lib.hid (bt HX3.out hb); have HRm := Lib.hid hr; clear hr hb)
        | (go_at_call 22; (with_reducible refine (S7.out x2 HX2.out).mono ?_); rintro e x3 ⟨rfl, hb⟩; have HX3 := Lib.hid (bt HX2.out hb); clear hb)
        | (go_at_call 19; (with_reducible refine (S6.out x1 HX1.out).mono ?_); rintro e x2 ⟨rfl, hb⟩; have HX2 := Lib.hid (bt HX1.out hb); clear hb)
        | (go_at_call 22; (with_reducible refine (S5.out v7.drew HVd.out).mono ?_); rintro e x1 ⟨rfl, hb⟩; have HX1 := Lib.hid (bt HVd.out hb); clear hb))
      all_goals go_wp2
      all_goals (go_ret; exact ⟨rfl, by rw [HG.out]; exact (HT.out _ HX6.out).2.2⟩)
  case hstep =>
    intro i hi a1 w1 lo up hA K hK
    rcases (show i = 0 ∨ i = 1 ∨ i = 2 ∨ i = 3 ∨ i = 4 ∨ i = 5 ∨ i = 6 ∨ i = 7 ∨ i = 8 ∨ i = 9 ∨ i = 10 by omega) with rfl | rfl | rfl | rfl | rfl | rfl | rfl | rfl | rfl | rfl | rfl
    · have s3 := hA.rest 3 (by decide)
      obtain ⟨⟨e0, e1, e2⟩, e3, e4, e5⟩ := (HUm.out _ hA.bel).1
      refine wpOp_step rfl (fun K' hK' => ?_)
      go_simp
      exact hK' _ _ (hK _ _ (fun _ _ _ _ _ => rfl) (Below.refl _ _))
    · have s3 := hA.rest 4 (by decide)
      obtain ⟨⟨e0, e1, e2⟩, e3, e4, e5⟩ := (HUm.out _ hA.bel).1
      refine wpOp_step rfl (fun K' hK' => ?_)
      go_simp
      exact hK' _ _ (hK _ _ (fun _ _ _ _ _ => rfl) (Below.refl _ _))
    · have s3 := hA.rest 3 (by decide)
      obtain ⟨⟨e0, e1, e2⟩, e3, e4, e5⟩ := (HUm.out _ hA.bel).1
      refine wpOp_step rfl (fun K' hK' => ?_)
      go_simp
      exact hK' _ _ (hK _ _ (fun _ _ _ _ _ => rfl) (Below.refl _ _))
    · obtain ⟨x0, hx0, hf0, hl0, hu0⟩ := hA.val _ rfl ⟨0, .data⟩ (by simp) rfl (by decide)
      obtain ⟨x1, hx1, hf1, _, _⟩ := hA.val _ rfl ⟨1, .data⟩ (by simp) rfl (by decide)
      obtain ⟨x2, hx2, hf2, _, _⟩ := hA.val _ rfl ⟨2, .data⟩ (by simp) rfl (by decide)
      obtain rfl : x0 = .agg #[.int .i64 a.op, .int .i64 a.vr, .slice Aa a.ks.length ca] := hf0
      obtain rfl : x1 = .agg #[.int .i64 b.op, .int .i64 b.vr, .slice Ab b.ks.length cb] := hf1
      obtain rfl : x2 = .agg #[.int .i64 a.op, .int .i64 a.vr, .slice Aa a.ks.length ca] := hf2
      have hy0 : a1.tmps[19]? = _ := hx0
      have hy1 : a1.tmps[20]? = _ := hx1
      have hy2 : a1.tmps[21]? = _ := hx2
      refine wpOp_step rfl (fun K' hK' => ?_)
      go_simp
      exact hK' _ _ (hK _ _ (fun lo' up' _ q1 q2 => ⟨_, rfl, Blk.new _ _ _, by rw [q1]; exact Nat.le_refl _, by rw [q2]; simp⟩) (bal _ _))
    · obtain ⟨x0, hx0, hf0, hl0, hu0⟩ := hA.val _ rfl ⟨3, .data⟩ (by simp) rfl (by decide)
      obtain ⟨g, rfl, hk, hg1, hg2⟩ : ∃ g, x0 = .slice (some ⟨g, 0, none⟩) 3 3 ∧ Blk w1 g 24 #[.int .i64 a.op, .int .i64 a.vr, .slice Aa a.ks.length ca, .int .i64 b.op, .int .i64 b.vr, .slice Ab b.ks.length cb, .int .i64 a.op, .int .i64 a.vr, .slice Aa a.ks.length ca] ∧ lo 3 ≤ g ∧ g < up 3 := hf0
      have hy0 : a1.tmps[22]? = _ := hx0
      obtain ⟨_, ⟨hra, hrb⟩, _⟩ := HUm.out _ hA.bel
      refine wpOp_step rfl (fun K' hK' => ?_)
      go_simp
      refine (c_and3 a b Aa Ab ca cb g y2.drew.heap.size w1 hA.bel.size hra hrb la lb' hk).mono ?_
      rintro e w2 ⟨A, c, rfl, hr, hb⟩
      exact hK' _ _ (hK _ _ (fun lo' up' q0 q1 q2 => ⟨A, c, rfl, hr.mono (fun x hx => by obtain ⟨z1, z2⟩ := q0 3 (by decide); rw [z1, z2, q1, q2]; omega)⟩) hb)
    · have s3 := hA.rest 4 (by decide)
      obtain ⟨⟨e0, e1, e2⟩, e3, e4, e5⟩ := (HUm.out _ hA.bel).1
      refine wpOp_step rfl (fun K' hK' => ?_)
      go_simp
      exact hK' _ _ (hK _ _ (fun _ _ _ _ _ => rfl) (Below.refl _ _))
    · have s3 := hA.rest 3 (by decide)
      obtain ⟨⟨e0, e1, e2⟩, e3, e4, e5⟩ := (HUm.out _ hA.bel).1
      refine wpOp_step rfl (fun K' hK' => ?_)
      go_simp
      exact hK' _ _ (hK _ _ (fun _ _ _ _ _ => rfl) (Below.refl _ _))
    · obtain ⟨x0, hx0, hf0, hl0, hu0⟩ := hA.val _ rfl ⟨5, .data⟩ (by simp) rfl (by decide)
      obtain ⟨x1, hx1, hf1, _, _⟩ := hA.val _ rfl ⟨6, .data⟩ (by simp) rfl (by decide)
      obtain rfl : x0 = .agg #[.int .i64 b.op, .int .i64 b.vr, .slice Ab b.ks.length cb] := hf0
      obtain rfl : x1 = .agg #[.int .i64 a.op, .int .i64 a.vr, .slice Aa a.ks.length ca] := hf1
      have hy0 : a1.tmps[24]? = _ := hx0
      have hy1 : a1.tmps[25]? = _ := hx1
      refine wpOp_step rfl (fun K' hK' => ?_)
      go_simp
      exact hK' _ _ (hK _ _ (fun lo' up' _ q1 q2 => ⟨_, rfl, Blk.new _ _ _, by rw [q1]; exact Nat.le_refl _, by rw [q2]; simp⟩) (bal _ _))
    · obtain ⟨x0, hx0, hf0, hl0, hu0⟩ := hA.val _ rfl ⟨7, .data⟩ (by simp) rfl (by decide)
      obtain ⟨g, rfl, hk, hg1, hg2⟩ : ∃ g, x0 = .slice (some ⟨g, 0, none⟩) 2 2 ∧ Blk w1 g 24 #[.int .i64 b.op, .int .i64 b.vr, .slice Ab b.ks.length cb, .int .i64 a.op, .int .i64 a.vr, .slice Aa a.ks.length ca] ∧ lo 7 ≤ g ∧ g < up 7 := hf0
      have hy0 : a1.tmps[26]? = _ := hx0
      obtain ⟨_, ⟨hra, hrb⟩, _⟩ := HUm.out _ hA.bel
      refine wpOp_step rfl (fun K' hK' => ?_)
      go_simp
      refine (c_or2 b a Ab Aa cb ca g y2.drew.heap.size w1 hA.bel.size hrb hra lb' la hk).mono ?_
      rintro e w2 ⟨A, c, rfl, hr, hb⟩
      exact hK' _ _ (hK _ _ (fun lo' up' q0 q1 q2 => ⟨A, c, rfl, hr.mono (fun x hx => by obtain ⟨z1, z2⟩ := q0 7 (by decide); rw [z1, z2, q1, q2]; omega)⟩) hb)
    · refine wpOp_step rfl (fun K' hK' => ?_)
      go_simp
      exact hK' _ _ (hK _ _ (fun lo' up' _ q1 q2 => ⟨_, rfl, Blk.new _ _ _, by rw [q1]; exact Nat.le_refl _, by rw [q2]; simp⟩) (bal _ _))
    · refine wpOp_step rfl (fun K' hK' => ?_)
      go_simp
      exact hK' _ _ (hK _ _ (fun lo' up' _ q1 q2 => ⟨_, rfl, Blk.new _ _ _, by rw [q1]; exact Nat.le_refl _, by rw [q2]; simp⟩) (bal _ _))
end Go.Proofs.Ytakhdlidikbnjaa
