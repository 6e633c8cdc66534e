/- Contracts of the specification's check and Check, of layer 30 (terms). -/
import Derived.Test.YtcdpjodnbegepaaFn2
namespace Go.Proofs.Ytcdpjodnbegepaa
open Go.RowKit

mutual
/-- What check answers of a node at depth d behind k nodes: the error, and the nodes so far. -/
def chk : Ex → Int → Int → Int × Int
  | .mk o v m ks, d, k => if flawS o v m.size ks.length d (wrap64 (k + 1)) = 0 then chkL ks (d + 1) (wrap64 (k + 1)) else (flawS o v m.size ks.length d (wrap64 (k + 1)), wrap64 (k + 1))
def chkL : List Ex → Int → Int → Int × Int
  | [], _, k => (0, k)
  | t :: r, d, k => if (chk t d k).1 = 0 then chkL r d (chk t d k).2 else chk t d k
end
theorem chk_eq (t : Ex) (d k : Int) : chk t d k = if flawS t.op t.vr t.nm.size t.ks.length d (wrap64 (k + 1)) = 0 then chkL t.ks (d + 1) (wrap64 (k + 1)) else (flawS t.op t.vr t.nm.size t.ks.length d (wrap64 (k + 1)), wrap64 (k + 1)) := by cases t; rfl
theorem chkL_step {l : List Ex} {i : Nat} (h : i < l.length) (d k : Int) : chkL (l.drop i) d k = if (chk (kd l i) d k).1 = 0 then chkL (l.drop (i + 1)) d (chk (kd l i) d k).2 else chk (kd l i) d k := by
  rw [kd_drop h]; rfl
def chkE (t : Ex) : Int := (chk t 1 0).1
def Two (R : Int × Int) (w : World) (e : Ending) (w' : World) : Prop := e = .returned (.tuple #[.int .i64 R.1, .int .i64 R.2]) ∧ Below w.heap.size w w'
theorem flaw_part (o v : Int) (L : Nat) (n d k : Int) : flawS o v L n d k = if flawS o v L n d 0 = 0 then (if 4096 < k then 4 else 0) else flawS o v L n d 0 := by
  unfold flawS
  by_cases h1 : 64 < d
  · simp [h1]
  by_cases h2 : o < 1 ∨ 18 < o
  · simp [h1, h2]
  by_cases h3 : v < numL o ∨ numM o < v
  · simp [h1, h2, h3]
  by_cases h4 : (L : Int) < lenL o ∨ lenM o < (L : Int)
  · simp [h1, h2, h3, h4]
  by_cases h5 : n < kidL o ∨ kidM o < n
  · simp [h1, h2, h3, h4, h5]
  simp [h1, h2, h3, h4, h5]
theorem flaw_some {o v : Int} {L : Nat} {n d k : Int} (h : flawS o v L n d k = 0) : (1 ≤ o ∧ o ≤ 18) ∧ d ≤ 64 ∧ n ≤ kidM o ∧ k ≤ 4096 := by
  unfold flawS at h
  (repeat' split at h) <;> first | omega | (exfalso; omega)
set_option maxHeartbeats 4000000 in
theorem rf_check : ∀ (n : Nat) t, t.sz ≤ n → ∀ A c (d k : Int) w, Rep w.heap.size w A t → 0 ≤ d → d + (n : Int) ≤ 1000000000 →
    Calls Try.prog 39 #[exV t A c, .int .i64 d, .int .i64 k] w (Two (chk t d k) w) := by
  intro n
  induction n with
  | zero => intro t h; have := sz_eq t; omega
  | succ n ih =>
    intro t ht A c d k w hR hd0 hd1
    have HIH := Lib.hid ih
    have HR := Lib.hid hR
    have hlen := szL_len t.ks
    have hszt := sz_eq t
    have hkb : t.ks.length ≤ 1000000000 := by omega
    obtain ⟨R, hRR⟩ : ∃ R, chk t d k = R := ⟨_, rfl⟩
    rw [hRR]
    rw [chk_eq, flaw_part] at hRR
    have HP := Lib.hid (fun w => rf_Part t.op t.vr t.nm t.ks.length A c d w)
    obtain ⟨p, hp⟩ : ∃ p, flawS t.op t.vr t.nm.size t.ks.length d 0 = p := ⟨_, rfl⟩
    rw [hp] at hRR HP
    obtain ⟨k', hk'⟩ : ∃ k', wrap64 (k + 1) = k' := ⟨_, rfl⟩
    rw [hk'] at hRR
    clear ih hR hszt hp
    have HB : Hid (∀ ob, Below w.heap.size w (w.alloc ob)) := Lib.hid (fun ob => (Below.refl _ _).alloc (Nat.le_refl _) ob)
    show Calls Try.prog 39 #[.agg #[.int .i64 t.op, .int .i64 t.vr, .string t.nm, .slice A t.ks.length c], .int .i64 d, .int .i64 k] w (Two R w)
    generalize t.op = o at *
    generalize t.vr = v at *
    generalize t.nm = m at *
    have HX : Hid (∀ wr, Below (w.alloc (.cells #[.int .i64 o, .int .i64 v, .string m, .slice A t.ks.length c] 24)).heap.size (w.alloc (.cells #[.int .i64 o, .int .i64 v, .string m, .slice A t.ks.length c] 24)) wr → (wr.cell? ⟨w.heap.size, 0, none⟩ = some (.int .i64 o) ∧ wr.cell? ⟨w.heap.size, 1, none⟩ = some (.int .i64 v) ∧ wr.cell? ⟨w.heap.size, 2, none⟩ = some (.string m) ∧ wr.cell? ⟨w.heap.size, 3, none⟩ = some (.slice A t.ks.length c)) ∧ Below w.heap.size w wr ∧ w.heap.size < wr.heap.size) := Lib.hid (fun wr h => by
      have hk := (Blk.new w 24 #[.int .i64 o, .int .i64 v, .string m, .slice A t.ks.length c])
      have hsz : (w.alloc (.cells #[.int .i64 o, .int .i64 v, .string m, .slice A t.ks.length c] 24)).heap.size = w.heap.size + 1 := by simp
      have hk2 : Blk wr w.heap.size 24 #[.int .i64 o, .int .i64 v, .string m, .slice A t.ks.length c] := (h.block _ (by rw [hsz]; omega)).trans hk
      refine ⟨⟨hk2.cell 0, hk2.cell 1, hk2.cell 2, hk2.cell 3⟩, (HB.out _).trans (h.mono (HB.out _).size), ?_⟩
      have := h.size
      rw [hsz] at this
      omega)
    by_cases hp0 : p = 0
    · subst hp0
      rw [if_pos rfl] at hRR
      by_cases h5 : 4096 < k'
      · have X : Hid (R = (4, k')) := Lib.hid (by rw [← hRR, if_pos h5]; rfl)
        clear hRR
        go_enter Try.func39, Try.ntmps39
        go_wp2_with (go_at_call 62; (with_reducible refine (HP.out _).mono ?_); rintro e w1 ⟨rfl, hb1⟩; have HB1 := Lib.hid hb1; clear hb1)
        go_ret2
        exact ⟨by rw [X.out]; rfl, (HX.out _ HB1.out).2.1⟩
      · have hRR2 : chkL (t.ks.drop 0) (d + 1) k' = R := by rw [← hRR, if_neg h5]; rfl
        have X := Lib.hid hRR2
        clear hRR hRR2
        go_enter Try.func39, Try.ntmps39
        go_wp2_with (go_at_call 62; (with_reducible refine (HP.out _).mono ?_); rintro e w1 ⟨rfl, hb1⟩; have HB1 := Lib.hid hb1; clear hb1)
        go_loopw [2, 9] (fun parts i wr => ∃ (j : Nat) (kk : Int), j ≤ t.ks.length ∧ i = .int .i64 (j : Int) ∧ parts = .int .i64 kk ∧ Hid (chkL (t.ks.drop j) (d + 1) kk = R) ∧ Below (w.alloc (.cells #[.int .i64 o, .int .i64 v, .string m, .slice A t.ks.length c] 24)).heap.size (w.alloc (.cells #[.int .i64 o, .int .i64 v, .string m, .slice A t.ks.length c] 24)) wr) (fun _ i _ => t.ks.length - (intOf i).toNat)
        case atStart => exact ⟨0, k', Nat.zero_le _, rfl, rfl, X, HB1.out⟩
        case round =>
          obtain ⟨j, kk, hj, rfl, rfl, HV, hb⟩ := hrel
          obtain ⟨⟨q0, q1, q2, q3⟩, hbw, hszr⟩ := HX.out _ hb
          by_cases hlt : j < t.ks.length
          · have l1 : (j : Int) < (t.ks.length : Int) := by omega
            obtain ⟨b, f0, rfl, hbl, hc⟩ := HR.out.out (by omega)
            obtain ⟨ka, kc, c0, c1, c2, c3, hRk⟩ := hc j hlt
            have d0 := (hbw.cell (p := ⟨b, f0 + j * 4, none⟩) hbl).trans c0
            have d1 := (hbw.cell (p := ⟨b, f0 + j * 4 + 1, none⟩) hbl).trans c1
            have d2 := (hbw.cell (p := ⟨b, f0 + j * 4 + 2, none⟩) hbl).trans c2
            have d3 := (hbw.cell (p := ⟨b, f0 + j * 4 + 3, none⟩) hbl).trans c3
            have HRk := Lib.hid (hRk.step hbw)
            have hstep := chkL_step hlt (d + 1) kk
            rw [HV.out] at hstep
            have hu := kd_sz hlt
            have hd2 : d + 1 + (n : Int) ≤ 1000000000 := by omega
            clear hc c0 c1 c2 c3 hRk
            generalize kd t.ks j = u at *
            have HC := Lib.hid (HIH.out u (by omega) ka kc (d + 1) kk wr HRk.out (by omega) hd2)
            obtain ⟨y, hy⟩ : ∃ y, chk u (d + 1) kk = y := ⟨_, rfl⟩
            rw [hy] at hstep HC
            clear hy hu
            obtain ⟨e2, k2⟩ := y
            by_cases he : e2 = 0
            · subst he
              have X2 : Hid (chkL (t.ks.drop (j + 1)) (d + 1) k2 = R) := Lib.hid (by rw [hstep]; rfl)
              clear hstep
              go_wp2_with (go_at_call 39; (with_reducible refine HC.out.mono ?_); rintro e w3 ⟨rfl, hb3⟩; have HB3 := Lib.hid (hb.trans (hb3.mono hb.size)); clear hb3)
              go_roundw
              case rel => exact ⟨j + 1, k2, by omega, by go_num, rfl, X2, HB3.out⟩
              case measure => simp [intOf]; try omega
            · have X2 : Hid (R = (e2, k2)) := Lib.hid (by rw [hstep, if_neg he])
              have he1 : (e2 == 0) = false := by simp [he]
              have he2 : (e2 != 0) = true := by simp [he]
              clear hstep
              go_wp2_with (go_at_call 39; (with_reducible refine HC.out.mono ?_); rintro e w3 ⟨rfl, hb3⟩; have HB3 := Lib.hid (hb.trans (hb3.mono hb.size)); clear hb3)
              go_ret2
              exact ⟨by rw [X2.out]; rfl, (HX.out _ HB3.out).2.1⟩
          · have l1 : ¬ (j : Int) < (t.ks.length : Int) := by omega
            obtain rfl : j = t.ks.length := by omega
            have X2 : Hid (R = (0, kk)) := Lib.hid (by have := HV.out; rw [List.drop_length] at this; exact this.symm)
            go_wp2
            go_ret2
            exact ⟨by rw [X2.out]; rfl, hbw⟩
    · have X : Hid (R = (p, k')) := Lib.hid (by rw [← hRR, if_neg hp0, if_neg hp0])
      have he1 : (p == 0) = false := by simp [hp0]
      have he2 : (p != 0) = true := by simp [hp0]
      clear hRR
      go_enter Try.func39, Try.ntmps39
      go_wp2_with (go_at_call 62; (with_reducible refine (HP.out _).mono ?_); rintro e w1 ⟨rfl, hb1⟩; have HB1 := Lib.hid hb1; clear hb1)
      go_ret2
      exact ⟨by rw [X.out]; rfl, (HX.out _ HB1.out).2.1⟩
set_option maxHeartbeats 1000000 in
theorem rf_Check (t : Ex) (A : Option Addr) (c : Nat) (w : World) (hs : t.sz ≤ 100000000) (hR : Rep w.heap.size w A t) : Calls Try.prog 15 #[exV t A c] w fun e w' => e = .returned (.int .i64 (chkE t)) ∧ Below w.heap.size w w' := by
  have HB : Hid (∀ ob, Below w.heap.size w (w.alloc ob)) := Lib.hid (fun ob => (Below.refl _ _).alloc (Nat.le_refl _) ob)
  have HC : Hid (Calls Try.prog 39 #[exV t A c, .int .i64 1, .int .i64 0] (w.alloc (.cells (exC t A c) 24)) (Two (chk t 1 0) (w.alloc (.cells (exC t A c) 24)))) := Lib.hid (rf_check t.sz t (Nat.le_refl _) A c 1 0 _ (hR.step (HB.out _)) (by omega) (by omega))
  have X : Hid (chkE t = (chk t 1 0).1) := Lib.hid rfl
  generalize chkE t = E at *
  obtain ⟨y, hy⟩ : ∃ y, chk t 1 0 = y := ⟨_, rfl⟩
  rw [hy] at X HC
  obtain ⟨e2, k2⟩ := y
  clear hR hy
  go_enter Try.func15, Try.ntmps15
  go_wp2_with (go_at_call 39; (with_reducible refine HC.out.mono ?_); rintro e w1 ⟨rfl, hb1⟩; have HB1 := Lib.hid hb1; clear hb1)
  go_ret
  exact ⟨by rw [X.out]; rfl, (HB.out _).trans (HB1.out.mono (HB.out _).size)⟩
end Go.Proofs.Ytcdpjodnbegepaa
