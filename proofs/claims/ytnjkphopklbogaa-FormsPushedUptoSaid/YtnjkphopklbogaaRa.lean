/- terms, left and Many of the specification, to the number; layer 32 (forms). -/
import Derived.Test.YtnjkphopklbogaaMh
namespace Go.Proofs.Ytnjkphopklbogaa
open Go.RowKit

theorem szL_take1 : ∀ (l : List Ex) (k : Nat), k < l.length → szL (l.take (k + 1)) = szL (l.take k) + (kd l k).sz
  | t :: r, 0, _ => by
    show t.sz + szL (r.take 0) = 0 + t.sz
    rw [List.take_zero]; simp [szL]
  | t :: r, k + 1, h => by
    have h0 := szL_take1 r k (by simpa using h)
    have h1 : szL ((t :: r).take (k + 1 + 1)) = t.sz + szL (r.take (k + 1)) := rfl
    have h2 : szL ((t :: r).take (k + 1)) = t.sz + szL (r.take k) := rfl
    have h3 : kd (t :: r) (k + 1) = kd r k := rfl
    rw [h1, h2, h3]; omega
theorem fszL_takeS : ∀ (l : List Fx) (k : Nat), k < l.length → fszL (l.take (k + 1)) = fszL (l.take k) + (fkd l k).sz
  | t :: r, 0, _ => by
    show t.sz + fszL (r.take 0) = 0 + t.sz
    rw [List.take_zero]; simp [fszL]
  | t :: r, k + 1, h => by
    have h0 := fszL_takeS r k (by simpa using h)
    have h1 : fszL ((t :: r).take (k + 1 + 1)) = t.sz + fszL (r.take (k + 1)) := rfl
    have h2 : fszL ((t :: r).take (k + 1)) = t.sz + fszL (r.take k) := rfl
    have h3 : fkd (t :: r) (k + 1) = fkd r k := rfl
    rw [h1, h2, h3]; omega
/-- A number of at most m; what is left of it once s is taken, if it is not below zero. -/
def AtS (w : World) (m : Int) (s : Nat) (e : Ending) (w' : World) : Prop := ∃ z : Int, e = .returned (.int .i64 z) ∧ (z ≤ m ∧ (0 ≤ z → z = m - (s : Int))) ∧ Below w.heap.size w w'
set_option maxRecDepth 100000 in
set_option maxHeartbeats 8000000 in
theorem rf_termsS : ∀ (n : Nat) (t : Ex), t.sz ≤ n → n ≤ 100000000 → ∀ A c (m : Int) w, Rep w.heap.size w A t → m ≤ 1000000000 →
    Calls Try.prog 55 #[exV t A c, .int .i64 m] w (AtS w m (szL t.ks)) := by
  intro n
  induction n with
  | zero => intro t h; have := sz_eq t; omega
  | succ n ih =>
    intro t ht hnn A c m w hR hm
    have HIH := Lib.hid ih
    have HR := Lib.hid hR
    have hkb : t.ks.length ≤ 1000000000 := by have := szL_len t.ks; have := sz_eq t; omega
    obtain ⟨W, hW⟩ : ∃ W, w.alloc (.cells #[.int .i64 t.op, .int .i64 t.vr, .string t.nm, .slice A t.ks.length c] 24) = W := ⟨_, rfl⟩
    have hk : Blk W w.heap.size 24 #[.int .i64 t.op, .int .i64 t.vr, .string t.nm, .slice A t.ks.length c] := by rw [← hW]; exact Blk.new _ _ _
    have hbW : Below w.heap.size w W := by rw [← hW]; exact bal _ _
    have HX : Hid (∀ wx, Below W.heap.size W wx → wx.cell? ⟨w.heap.size, 3, none⟩ = some (.slice A t.ks.length c) ∧ Below w.heap.size w wx) := Lib.hid (fun wx h => by
      have k := hk.below h hk.lt
      exact ⟨k.cell 3, bt hbW h⟩)
    have HWW := Lib.hid hW
    clear ih hR hk hbW hW
    show Calls Try.prog 55 #[.agg #[.int .i64 t.op, .int .i64 t.vr, .string t.nm, .slice A t.ks.length c], .int .i64 m] w _
    go_enter Try.func55, Try.ntmps55
    go_upto_region 1 with (fail)
    rw [HWW.out]
    go_wp2
    go_loopw [1, 5] (fun s1 i wr => ∃ (j : Nat) (z : Int), j ≤ t.ks.length ∧ i = .int .i64 (j : Int) ∧ s1 = .int .i64 z ∧ Hid (z ≤ m ∧ (0 ≤ z → z = m - ((szL (t.ks.take j) : Nat) : Int))) ∧ Below W.heap.size W wr) (fun _ i _ => t.ks.length - (intOf i).toNat)
    case atStart => exact ⟨0, m, Nat.zero_le _, rfl, rfl, Lib.hid ⟨by omega, fun _ => by rw [List.take_zero]; simp [szL]⟩, Below.refl _ _⟩
    case round =>
      obtain ⟨j, z, hj, rfl, rfl, hz, hb⟩ := hrel
      obtain ⟨q3, hbw⟩ := HX.out _ hb
      by_cases hlt : j < t.ks.length
      · have l1 : (j : Int) < (t.ks.length : Int) := by omega
        by_cases h0 : 0 ≤ z
        · obtain ⟨b, f0, rfl, hbl, hc⟩ := HR.out.out (by omega)
          obtain ⟨ka, kc, c0, c1, c2, c3, hRk⟩ := hc j hlt
          have d0 := (hbw.cell (p := ⟨b, f0 + j * 4, none⟩) hbl).trans c0
          have d1 := (hbw.cell (p := ⟨b, f0 + j * 4 + 1, none⟩) hbl).trans c1
          have d2 := (hbw.cell (p := ⟨b, f0 + j * 4 + 2, none⟩) hbl).trans c2
          have d3 := (hbw.cell (p := ⟨b, f0 + j * 4 + 3, none⟩) hbl).trans c3
          have hu := kd_sz hlt
          have HTK := Lib.hid (szL_take1 t.ks j hlt)
          have HSZ := Lib.hid (sz_eq (kd t.ks j))
          have hzm := hz.out.1
          have HC := Lib.hid (HIH.out (kd t.ks j) (by omega) (by omega) ka kc (z - 1) wr (hRk.step hbw) (by omega))
          have hgz : ¬ z < 0 := by omega
          clear hc c0 c1 c2 c3 hRk hu
          generalize kd t.ks j = u at *
          go_wp2_with (go_at_call 55; (with_reducible refine HC.out.mono ?_); rintro e w3 ⟨z3, rfl, hz3, hb3⟩; have HZ3 := Lib.hid hz3; have HB3 := Lib.hid (bt hb hb3); clear hz3 hb3)
          go_roundw
          case rel => exact ⟨j + 1, z3, by omega, by go_num, rfl, Lib.hid (by have h1 := HZ3.out; have h2 := hz.out; have h3 := HTK.out; have h4 := HSZ.out; exact ⟨by omega, fun h => by have h5 := h1.2 h; have h6 := h2.2 h0; omega⟩), HB3.out⟩
          case measure => simp [intOf]; try omega
        · have hgz : z < 0 := by omega
          have hg0 : ¬ 0 ≤ z := h0
          go_wp2
          go_ret
          exact ⟨z, rfl, ⟨hz.out.1, fun h => by omega⟩, hbw⟩
      · have l1 : ¬ (j : Int) < (t.ks.length : Int) := by omega
        go_wp2
        go_ret
        obtain rfl : j = t.ks.length := by omega
        have h := hz.out
        rw [List.take_length] at h
        exact ⟨z, rfl, h, hbw⟩
set_option maxRecDepth 100000 in
set_option maxHeartbeats 8000000 in
theorem rf_leftS : ∀ (n : Nat) (t : Fx), t.sz ≤ n → n ≤ 100000000 → ∀ E dd A c (m : Int) w, Fm w.heap.size w t E A → 0 ≤ m → m ≤ 1000000000 →
    Calls Try.prog 28 #[fV t E dd A c, .int .i64 m] w (AtS w m t.sz) := by
  intro n
  induction n with
  | zero => intro t h; have := fsz_pos t; omega
  | succ n ih =>
    intro t ht hnn E dd A c m w hR hm0 hm
    have HIH := Lib.hid ih
    have HR := Lib.hid hR
    have hes := fe_sz t
    have hkb : t.ks.length ≤ 1000000000 := by have := fkl_sz t; omega
    have HAL : Hid (∀ o, Below w.heap.size w (w.alloc o)) := Lib.hid (fun o => bal _ _)
    have HF := Lib.hid (fal t E A dd c w)
    obtain ⟨W, hW⟩ : ∃ W, w.alloc (.cells (fC t E dd A c) 27) = W := ⟨_, rfl⟩
    have HT : Hid (Calls Try.prog 55 #[exV t.e E dd, .int .i64 (m - 1)] W (AtS W (m - 1) (szL t.e.ks))) := Lib.hid (rf_termsS t.e.sz t.e (Nat.le_refl _) (by omega) E dd (m - 1) W (by rw [← hW]; exact hR.1.step (bal _ _)) (by omega))
    have HX : Hid (∀ wx, Below W.heap.size W wx → FAt wx w.heap.size 0 t E dd A c ∧ Below w.heap.size w wx) := Lib.hid (fun wx hb => by rw [← hW] at hb; exact ⟨HF.out.below hb (by simp), bt (HAL.out _) hb⟩)
    have HWW := Lib.hid hW
    obtain ⟨p0, p1, p2, p3, p4, p5⟩ := (HX.out W (Below.refl _ _)).1
    clear ih hR hW
    go_enter Try.func28, Try.ntmps28
    go_upto_region 1 with (fail)
    try rw [HWW.out]
    go_wp2_with (go_at_call 55; (with_reducible refine HT.out.mono ?_); rintro e w1 ⟨z1, rfl, hz1, hb1⟩; have HZ1 := Lib.hid hz1; have HB1 := Lib.hid hb1; clear hz1 hb1)
    go_loopw [1, 5] (fun s1 i wr => ∃ (j : Nat) (z : Int), j ≤ t.ks.length ∧ i = .int .i64 (j : Int) ∧ s1 = .int .i64 z ∧ Hid (z ≤ m ∧ (0 ≤ z → z = m - ((t.e.sz + fszL (t.ks.take j) : Nat) : Int))) ∧ Below W.heap.size W wr) (fun _ i _ => t.ks.length - (intOf i).toNat)
    case atStart => exact ⟨0, z1, Nat.zero_le _, rfl, rfl, Lib.hid (by have h1 := HZ1.out; have h2 := sz_eq t.e; have h3 : fszL (t.ks.take 0) = 0 := rfl; exact ⟨by omega, fun h => by have := h1.2 h; omega⟩), HB1.out⟩
    case round =>
      obtain ⟨j, z, hj, rfl, rfl, hz, hb⟩ := hrel
      obtain ⟨⟨q0, q1, q2, q3, q4, q5⟩, hbw⟩ := HX.out _ hb
      by_cases hlt : j < t.ks.length
      · have l1 : (j : Int) < (t.ks.length : Int) := by omega
        by_cases h0 : 0 ≤ z
        · obtain ⟨b, f0, rfl, hbl, hc⟩ := HR.out.2.out (by omega)
          obtain ⟨ea, ec, ka, kc, hAt, hRe, hRk⟩ := hc j hlt
          obtain ⟨d0, d1, d2, d3, d4, d5⟩ := hAt.below hbw hbl
          have HRk : Hid (Fm wr.heap.size wr (fkd t.ks j) ea ka) := Lib.hid ⟨hRe.step hbw, hRk.step hbw⟩
          have hu := fkd_sz hlt
          have HTK := Lib.hid (fszL_takeS t.ks j hlt)
          have hzm := hz.out.1
          have HC := Lib.hid (HIH.out (fkd t.ks j) (by omega) (by omega) ea ec ka kc z wr HRk.out h0 (by omega))
          have hgz : ¬ z < 0 := by omega
          clear hc hAt hRe hRk hu
          generalize fkd t.ks j = u at *
          go_wp2_with (go_at_call 28; (with_reducible refine HC.out.mono ?_); rintro e w3 ⟨z3, rfl, hz3, hb3⟩; have HZ3 := Lib.hid hz3; have HB3 := Lib.hid (hb.trans (hb3.mono hb.size)); clear hz3 hb3)
          go_roundw
          case rel => exact ⟨j + 1, z3, by omega, by go_num, rfl, Lib.hid (by have h1 := HZ3.out; have h2 := hz.out; have h3 := HTK.out; exact ⟨by omega, fun h => by have h5 := h1.2 h; have h6 := h2.2 h0; omega⟩), HB3.out⟩
          case measure => simp [intOf]; try omega
        · have hgz : z < 0 := by omega
          have hg0 : ¬ 0 ≤ z := h0
          go_wp2
          go_ret
          exact ⟨z, rfl, ⟨hz.out.1, fun h => by omega⟩, hbw⟩
      · have l1 : ¬ (j : Int) < (t.ks.length : Int) := by omega
        go_wp2
        go_ret
        obtain rfl : j = t.ks.length := by omega
        have h := hz.out
        rw [List.take_length, ← fsz_eq t] at h
        exact ⟨z, rfl, h, hbw⟩
set_option maxHeartbeats 1000000 in
theorem rf_ManyS (t : Fx) (E A : Option Addr) (dd c : Nat) (m : Int) (w : World) (hs : t.sz ≤ 100000000) (hR : Fm w.heap.size w t E A) (h0 : 0 ≤ m) (hm : m ≤ 1000000000) :
    Calls Try.prog 7 #[fV t E dd A c, .int .i64 m] w fun e w' => ∃ b : Bool, ValP w b e w' ∧ (b = true → (t.sz : Int) ≤ m) := by
  have HAL : Hid (∀ o, Below w.heap.size w (w.alloc o)) := Lib.hid (fun o => bal _ _)
  have HC : Hid (Calls Try.prog 28 #[fV t E dd A c, .int .i64 m] (w.alloc (.cells (fC t E dd A c) 27)) (AtS (w.alloc (.cells (fC t E dd A c) 27)) m t.sz)) := Lib.hid (rf_leftS t.sz t (Nat.le_refl _) hs E dd A c m _ (hR.step (bal _ _)) h0 hm)
  obtain ⟨p0, p1, p2, p3, p4, p5⟩ := fal t E A dd c w
  clear hR
  go_enter Try.func7, Try.ntmps7
  go_wp2_with (go_at_call 28; (with_reducible refine HC.out.mono ?_); rintro e w1 ⟨z, rfl, hz1, hb1⟩; have HZ1 := Lib.hid hz1; have HB1 := Lib.hid hb1; clear hb1 hz1)
  go_ret
  refine ⟨_, ⟨rfl, bt (HAL.out _) HB1.out⟩, fun h => ?_⟩
  have h2 : 0 ≤ z := by simpa using h
  have := HZ1.out.2 h2
  omega
end Go.Proofs.Ytnjkphopklbogaa
