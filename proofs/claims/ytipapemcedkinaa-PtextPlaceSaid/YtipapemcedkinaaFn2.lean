/- Contracts of the specification's Kids, check and Check, of layer 7 (ptext). -/
import Derived.Test.YtipapemcedkinaaFn1
namespace Go.Proofs.Ytipapemcedkinaa
open Go.RowKit

def inOp (o : Int) : Prop := 1 ≤ o ∧ o ≤ 10
set_option maxHeartbeats 1000000 in
theorem rf_Kids_in (o : Int) (w : World) (h : inOp o) : Calls Try.prog 43 #[.int .i64 o] w fun e w' => e = .returned (.tuple #[.int .i64 (kidL o), .int .i64 (kidM o)]) ∧ w = w' := by
  have hc : o = 1 ∨ o = 2 ∨ o = 3 ∨ o = 4 ∨ o = 5 ∨ o = 6 ∨ o = 7 ∨ o = 8 ∨ o = 9 ∨ o = 10 := by unfold inOp at h; omega
  clear h
  rcases hc with rfl | rfl | rfl | rfl | rfl | rfl | rfl | rfl | rfl | rfl
  all_goals
    go_enter Try.func43, Try.ntmps43
    go_wp2
    go_ret2
    exact ⟨rfl, rfl⟩
set_option maxHeartbeats 1000000 in
theorem rf_Kids_out (o : Int) (w : World) (h : ¬ inOp o) : Calls Try.prog 43 #[.int .i64 o] w fun e w' => e = .returned (.tuple #[.int .i64 (-1), .int .i64 (-1)]) ∧ w = w' := by
  have ne : ∀ k : Int, 1 ≤ k → k ≤ 10 → (o == k) = false := fun k h1 h2 => by
    rw [beq_eq_false_iff_ne]
    intro e
    exact h ⟨by omega, by omega⟩
  have e1 := ne 1 (by omega) (by omega)
  have e2 := ne 2 (by omega) (by omega)
  have e3 := ne 3 (by omega) (by omega)
  have e4 := ne 4 (by omega) (by omega)
  have e5 := ne 5 (by omega) (by omega)
  have e6 := ne 6 (by omega) (by omega)
  have e7 := ne 7 (by omega) (by omega)
  have e8 := ne 8 (by omega) (by omega)
  have e9 := ne 9 (by omega) (by omega)
  have e10 := ne 10 (by omega) (by omega)
  clear ne h
  go_enter Try.func43, Try.ntmps43
  go_wp2
  go_ret2
  exact ⟨rfl, rfl⟩
mutual
/-- What check answers of a node at depth d behind k nodes: the error, and the nodes so far. -/
def chk : Ex → Int → Int → Int × Int
  | .mk o v ks, d, k => if flawS o v ks.length d (wrap64 (k + 1)) = 0 then chkL ks (d + 1) (wrap64 (k + 1)) else (flawS o v ks.length d (wrap64 (k + 1)), wrap64 (k + 1))
def chkL : List Ex → Int → Int → Int × Int
  | [], _, k => (0, k)
  | t :: r, d, k => if (chk t d k).1 = 0 then chkL r d (chk t d k).2 else chk t d k
end
theorem chk_eq (t : Ex) (d k : Int) : chk t d k = if flawS t.op t.vr t.ks.length d (wrap64 (k + 1)) = 0 then chkL t.ks (d + 1) (wrap64 (k + 1)) else (flawS t.op t.vr t.ks.length d (wrap64 (k + 1)), wrap64 (k + 1)) := by cases t; rfl
theorem chkL_step {l : List Ex} {i : Nat} (h : i < l.length) (d k : Int) : chkL (l.drop i) d k = if (chk (kd l i) d k).1 = 0 then chkL (l.drop (i + 1)) d (chk (kd l i) d k).2 else chk (kd l i) d k := by
  rw [kd_drop h]; rfl
def chkE (t : Ex) : Int := (chk t 1 0).1
def Two (R : Int × Int) (w : World) (e : Ending) (w' : World) : Prop := e = .returned (.tuple #[.int .i64 R.1, .int .i64 R.2]) ∧ Below w.heap.size w w'
set_option maxHeartbeats 4000000 in
theorem rf_check_er (o v : Int) (n : Nat) (A : Option Addr) (c : Nat) (d k : Int) (w : World) (R : Int × Int) (hne : flawS o v n d (wrap64 (k + 1)) ≠ 0) (hR : (flawS o v n d (wrap64 (k + 1)), wrap64 (k + 1)) = R) :
    Calls Try.prog 33 #[.agg #[.int .i64 o, .int .i64 v, .slice A n c], .int .i64 d, .int .i64 k] w (Two R w) := by
  have HB : Hid (∀ ob, Below w.heap.size w (w.alloc ob)) := Lib.hid (fun ob => (Below.refl _ _).alloc (Nat.le_refl _) ob)
  unfold flawS at hR hne
  by_cases h1 : 64 < d
  · rw [if_pos h1] at hR
    have X := Lib.hid hR.symm
    clear hR hne
    go_enter Try.func33, Try.ntmps33
    go_wp2
    go_ret2
    exact ⟨by rw [X.out]; rfl, HB.out _⟩
  rw [if_neg h1] at hR hne
  by_cases h2 : o < 1 ∨ 10 < o
  · rw [if_pos h2] at hR
    have X := Lib.hid hR.symm
    have HK := Lib.hid (fun w => rf_Kids_out o w (by unfold inOp; omega))
    clear hR hne
    go_enter Try.func33, Try.ntmps33
    go_wp2_with (go_at_call 43; (with_reducible refine (HK.out _).mono ?_); rintro e w1 ⟨rfl, rfl⟩)
    go_ret2
    exact ⟨by rw [X.out]; rfl, HB.out _⟩
  rw [if_neg h2] at hR hne
  have HK := Lib.hid (fun w => rf_Kids_in o w (by unfold inOp; omega))
  have kb : 0 ≤ kidL o := by unfold kidL; split <;> (try split) <;> (try split) <;> omega
  generalize kidL o = kl at *
  generalize kidM o = km at *
  have hn1 : ¬ kl < 0 := by omega
  by_cases h3 : o = 3
  · subst h3
    have hv : varM 3 = 63 := rfl
    rw [hv] at hR hne
    clear hv h2
    by_cases h4 : v < 0
    · have X : Hid (R = (9, wrap64 (k + 1))) := Lib.hid (by rw [← hR, if_pos (by omega)])
      clear hR hne
      go_enter Try.func33, Try.ntmps33
      go_wp2_with (go_at_call 43; (with_reducible refine (HK.out _).mono ?_); rintro e w1 ⟨rfl, rfl⟩)
      go_ret2
      exact ⟨by rw [X.out]; rfl, HB.out _⟩
    by_cases h5 : 64 ≤ v
    · have X : Hid (R = (9, wrap64 (k + 1))) := Lib.hid (by rw [← hR, if_pos (by omega)])
      clear hR hne
      go_enter Try.func33, Try.ntmps33
      go_wp2_with (go_at_call 43; (with_reducible refine (HK.out _).mono ?_); rintro e w1 ⟨rfl, rfl⟩)
      go_ret2
      exact ⟨by rw [X.out]; rfl, HB.out _⟩
    rw [if_neg (by omega)] at hR hne
    by_cases h6 : (n : Int) < kl
    · have X : Hid (R = (3, wrap64 (k + 1))) := Lib.hid (by rw [← hR, if_pos (by omega)])
      clear hR hne
      go_enter Try.func33, Try.ntmps33
      go_wp2_with (go_at_call 43; (with_reducible refine (HK.out _).mono ?_); rintro e w1 ⟨rfl, rfl⟩)
      go_ret2
      exact ⟨by rw [X.out]; rfl, HB.out _⟩
    by_cases h7 : km < (n : Int)
    · have X : Hid (R = (3, wrap64 (k + 1))) := Lib.hid (by rw [← hR, if_pos (by omega)])
      clear hR hne
      go_enter Try.func33, Try.ntmps33
      go_wp2_with (go_at_call 43; (with_reducible refine (HK.out _).mono ?_); rintro e w1 ⟨rfl, rfl⟩)
      go_ret2
      exact ⟨by rw [X.out]; rfl, HB.out _⟩
    rw [if_neg (by omega)] at hR hne
    by_cases h8 : 4096 < wrap64 (k + 1)
    · have X : Hid (R = (4, wrap64 (k + 1))) := Lib.hid (by rw [← hR, if_pos (by omega)])
      clear hR hne
      go_enter Try.func33, Try.ntmps33
      go_wp2_with (go_at_call 43; (with_reducible refine (HK.out _).mono ?_); rintro e w1 ⟨rfl, rfl⟩)
      go_ret2
      exact ⟨by rw [X.out]; rfl, HB.out _⟩
    rw [if_neg h8] at hne
    exact absurd rfl hne
  · have h3' : (o == 3) = false := by simp [h3]
    have h3n : (o != 3) = true := by simp [h3]
    have hv : varM o = 0 := by unfold varM; rw [if_neg h3]
    rw [hv] at hR hne
    clear hv
    by_cases h4 : v = 0
    · subst h4
      rw [if_neg (by omega)] at hR hne
      by_cases h6 : (n : Int) < kl
      · have X : Hid (R = (3, wrap64 (k + 1))) := Lib.hid (by rw [← hR, if_pos (by omega)])
        clear hR hne
        go_enter Try.func33, Try.ntmps33
        go_wp2_with (go_at_call 43; (with_reducible refine (HK.out _).mono ?_); rintro e w1 ⟨rfl, rfl⟩)
        go_ret2
        exact ⟨by rw [X.out]; rfl, HB.out _⟩
      by_cases h7 : km < (n : Int)
      · have X : Hid (R = (3, wrap64 (k + 1))) := Lib.hid (by rw [← hR, if_pos (by omega)])
        clear hR hne
        go_enter Try.func33, Try.ntmps33
        go_wp2_with (go_at_call 43; (with_reducible refine (HK.out _).mono ?_); rintro e w1 ⟨rfl, rfl⟩)
        go_ret2
        exact ⟨by rw [X.out]; rfl, HB.out _⟩
      rw [if_neg (by omega)] at hR hne
      by_cases h8 : 4096 < wrap64 (k + 1)
      · have X : Hid (R = (4, wrap64 (k + 1))) := Lib.hid (by rw [← hR, if_pos (by omega)])
        clear hR hne
        go_enter Try.func33, Try.ntmps33
        go_wp2_with (go_at_call 43; (with_reducible refine (HK.out _).mono ?_); rintro e w1 ⟨rfl, rfl⟩)
        go_ret2
        exact ⟨by rw [X.out]; rfl, HB.out _⟩
      rw [if_neg h8] at hne
      exact absurd rfl hne
    · have h4' : (v == 0) = false := by simp [h4]
      have h4n : (v != 0) = true := by simp [h4]
      have X : Hid (R = (9, wrap64 (k + 1))) := Lib.hid (by rw [← hR, if_pos (by omega)])
      clear hR hne
      go_enter Try.func33, Try.ntmps33
      go_wp2_with (go_at_call 43; (with_reducible refine (HK.out _).mono ?_); rintro e w1 ⟨rfl, rfl⟩)
      go_ret2
      exact ⟨by rw [X.out]; rfl, HB.out _⟩
/-- What holds of a node that is right. -/
structure Fine (o v : Int) (n : Nat) (d k' : Int) (kl km : Int) : Prop where
  deep : ¬ 64 < d
  op : inOp o
  lo : ¬ kl < 0
  len1 : ¬ (n : Int) < kl
  len2 : ¬ km < (n : Int)
  long : ¬ 4096 < k'
  var : o = 3 ∧ ¬ v < 0 ∧ ¬ 64 ≤ v ∨ o ≠ 3 ∧ v = 0
theorem fine_of {o v : Int} {n : Nat} {d k' : Int} (h : flawS o v n d k' = 0) : Fine o v n d k' (kidL o) (kidM o) := by
  unfold flawS at h
  by_cases h1 : 64 < d
  · rw [if_pos h1] at h; cases h
  rw [if_neg h1] at h
  by_cases h2 : o < 1 ∨ 10 < o
  · rw [if_pos h2] at h; cases h
  rw [if_neg h2] at h
  by_cases h3 : v < 0 ∨ varM o < v
  · rw [if_pos h3] at h; cases h
  rw [if_neg h3] at h
  by_cases h4 : (n : Int) < kidL o ∨ kidM o < (n : Int)
  · rw [if_pos h4] at h; cases h
  rw [if_neg h4] at h
  by_cases h5 : 4096 < k'
  · rw [if_pos h5] at h; cases h
  have kb : 0 ≤ kidL o := by unfold kidL; split <;> (try split) <;> (try split) <;> omega
  refine ⟨h1, by unfold inOp; omega, by omega, by omega, by omega, h5, ?_⟩
  unfold varM at h3
  split at h3
  · exact .inl ⟨by assumption, by omega, by omega⟩
  · exact .inr ⟨by assumption, by omega⟩
set_option maxHeartbeats 4000000 in
theorem rf_check : ∀ (n : Nat) t, t.sz ≤ n → ∀ A c (d k : Int) w, Rep w.heap.size w A t → 0 ≤ d → d + (n : Int) ≤ 1000000000 →
    Calls Try.prog 33 #[exV t A c, .int .i64 d, .int .i64 k] w (Two (chk t d k) w) := by
  intro n
  induction n with
  | zero => intro t h; have := sz_eq t; omega
  | succ n ih =>
    intro t ht A c d k w hR hd0 hd1
    by_cases hne : flawS t.op t.vr t.ks.length d (wrap64 (k + 1)) = 0
    · have HIH := Lib.hid ih
      have HR := Lib.hid hR
      have hlen := szL_len t.ks
      have hszt := sz_eq t
      have hkb : t.ks.length ≤ 1000000000 := by omega
      have f := fine_of hne
      have HK := Lib.hid (fun w => rf_Kids_in t.op w f.op)
      obtain ⟨h1, _, h2, h3, h4, h5, h6⟩ := f
      obtain ⟨R, hRR⟩ : ∃ R, chk t d k = R := ⟨_, rfl⟩
      rw [hRR]
      rw [chk_eq, if_pos hne] at hRR
      have hRR2 : chkL (t.ks.drop 0) (d + 1) (wrap64 (k + 1)) = R := hRR
      have X := Lib.hid hRR2
      clear hRR hRR2 ih hR hszt hne
      generalize kidL t.op = kl at *
      generalize kidM t.op = km at *
      have HB : Hid (∀ ob, Below w.heap.size w (w.alloc ob)) := Lib.hid (fun ob => (Below.refl _ _).alloc (Nat.le_refl _) ob)
      obtain ⟨k', hk'⟩ : ∃ k', wrap64 (k + 1) = k' := ⟨_, rfl⟩
      rw [hk'] at X h5
      have g : (t.op == 3) = true ∧ ¬ t.vr < 0 ∧ ¬ 64 ≤ t.vr ∨ (t.op == 3) = false ∧ (t.op != 3) = true ∧ (t.vr != 0) = false := by
        rcases h6 with ⟨a, b, c⟩ | ⟨a, b⟩
        · exact .inl ⟨by rw [a]; rfl, b, c⟩
        · exact .inr ⟨by simp [a], by simp [a], by rw [b]; rfl⟩
      clear h6
      show Calls Try.prog 33 #[.agg #[.int .i64 t.op, .int .i64 t.vr, .slice A t.ks.length c], .int .i64 d, .int .i64 k] w (Two R w)
      generalize t.op = o at *
      generalize t.vr = v at *
      have HX : Hid (∀ wr, Below (w.alloc (.cells #[.int .i64 o, .int .i64 v, .slice A t.ks.length c] 25)).heap.size (w.alloc (.cells #[.int .i64 o, .int .i64 v, .slice A t.ks.length c] 25)) wr → (wr.cell? ⟨w.heap.size, 0, none⟩ = some (.int .i64 o) ∧ wr.cell? ⟨w.heap.size, 1, none⟩ = some (.int .i64 v) ∧ wr.cell? ⟨w.heap.size, 2, none⟩ = some (.slice A t.ks.length c)) ∧ Below w.heap.size w wr ∧ w.heap.size < wr.heap.size) := Lib.hid (fun wr h => by
        have hk := (Blk.new w 25 #[.int .i64 o, .int .i64 v, .slice A t.ks.length c])
        have hsz : (w.alloc (.cells #[.int .i64 o, .int .i64 v, .slice A t.ks.length c] 25)).heap.size = w.heap.size + 1 := by simp
        have hk2 : Blk wr w.heap.size 25 #[.int .i64 o, .int .i64 v, .slice A t.ks.length c] := (h.block _ (by rw [hsz]; omega)).trans hk
        refine ⟨⟨hk2.cell 0, hk2.cell 1, hk2.cell 2⟩, (HB.out _).trans (h.mono (HB.out _).size), ?_⟩
        have := h.size
        rw [hsz] at this
        omega)
      rcases g with ⟨g1, g2, g3⟩ | ⟨g1, g2, g3⟩
      · obtain rfl : o = 3 := by simpa using g1
        clear g1
        go_enter Try.func33, Try.ntmps33
        go_wp2_with (go_at_call 43; (with_reducible refine (HK.out _).mono ?_); rintro e w1 ⟨rfl, rfl⟩)
        go_loopw [2, 10] (fun parts i wr => ∃ (j : Nat) (kk : Int), j ≤ t.ks.length ∧ i = .int .i64 (j : Int) ∧ parts = .int .i64 kk ∧ Hid (chkL (t.ks.drop j) (d + 1) kk = R) ∧ Below (w.alloc (.cells #[.int .i64 3, .int .i64 v, .slice A t.ks.length c] 25)).heap.size (w.alloc (.cells #[.int .i64 3, .int .i64 v, .slice A t.ks.length c] 25)) wr) (fun _ i _ => t.ks.length - (intOf i).toNat)
        case atStart => exact ⟨0, k', Nat.zero_le _, rfl, rfl, X, Below.refl _ _⟩
        case round =>
          obtain ⟨j, kk, hj, rfl, rfl, HV, hb⟩ := hrel
          obtain ⟨⟨q0, q1, q2⟩, hbw, hszr⟩ := HX.out _ hb
          by_cases hlt : j < t.ks.length
          · have l1 : (j : Int) < (t.ks.length : Int) := by omega
            obtain ⟨b, f0, rfl, hbl, hc⟩ := HR.out.out (by omega)
            obtain ⟨ka, kc, c0, c1, c2, hRk⟩ := hc j hlt
            have d0 := (hbw.cell (p := ⟨b, f0 + j * 3, none⟩) hbl).trans c0
            have d1 := (hbw.cell (p := ⟨b, f0 + j * 3 + 1, none⟩) hbl).trans c1
            have d2 := (hbw.cell (p := ⟨b, f0 + j * 3 + 2, none⟩) hbl).trans c2
            have HRk := Lib.hid (hRk.step hbw)
            have hstep := chkL_step hlt (d + 1) kk
            rw [HV.out] at hstep
            have hu := kd_sz hlt
            have hd2 : d + 1 + (n : Int) ≤ 1000000000 := by omega
            clear hc c0 c1 c2 hRk
            generalize kd t.ks j = u at *
            have HC := Lib.hid (HIH.out u (by omega) ka kc (d + 1) kk wr HRk.out (by omega) hd2)
            obtain ⟨y, hy⟩ : ∃ y, chk u (d + 1) kk = y := ⟨_, rfl⟩
            rw [hy] at hstep HC
            clear hy hu
            obtain ⟨e2, k2⟩ := y
            by_cases he : e2 = 0
            · subst he
              have X2 : Hid (chkL (t.ks.drop (j + 1)) (d + 1) k2 = R) := Lib.hid (by rw [hstep]; rfl)
              clear hstep
              go_wp2_with (go_at_call 33; (with_reducible refine HC.out.mono ?_); rintro e w3 ⟨rfl, hb3⟩; have HB3 := Lib.hid (hb.trans (hb3.mono hb.size)); clear hb3)
              go_roundw
              case rel => exact ⟨j + 1, k2, by omega, by go_num, rfl, X2, HB3.out⟩
              case measure => simp [intOf]; try omega
            · have X2 : Hid (R = (e2, k2)) := Lib.hid (by rw [hstep, if_neg he])
              have he1 : (e2 == 0) = false := by simp [he]
              have he2 : (e2 != 0) = true := by simp [he]
              clear hstep
              go_wp2_with (go_at_call 33; (with_reducible refine HC.out.mono ?_); rintro e w3 ⟨rfl, hb3⟩; have HB3 := Lib.hid (hb.trans (hb3.mono hb.size)); clear hb3)
              go_ret2
              exact ⟨by rw [X2.out]; rfl, (HX.out _ HB3.out).2.1⟩
          · have l1 : ¬ (j : Int) < (t.ks.length : Int) := by omega
            obtain rfl : j = t.ks.length := by omega
            have X2 : Hid (R = (0, kk)) := Lib.hid (by have := HV.out; rw [List.drop_length] at this; exact this.symm)
            go_wp2
            go_ret2
            exact ⟨by rw [X2.out]; rfl, hbw⟩
      · skip
        go_enter Try.func33, Try.ntmps33
        go_wp2_with (go_at_call 43; (with_reducible refine (HK.out _).mono ?_); rintro e w1 ⟨rfl, rfl⟩)
        go_loopw [2, 10] (fun parts i wr => ∃ (j : Nat) (kk : Int), j ≤ t.ks.length ∧ i = .int .i64 (j : Int) ∧ parts = .int .i64 kk ∧ Hid (chkL (t.ks.drop j) (d + 1) kk = R) ∧ Below (w.alloc (.cells #[.int .i64 o, .int .i64 v, .slice A t.ks.length c] 25)).heap.size (w.alloc (.cells #[.int .i64 o, .int .i64 v, .slice A t.ks.length c] 25)) wr) (fun _ i _ => t.ks.length - (intOf i).toNat)
        case atStart => exact ⟨0, k', Nat.zero_le _, rfl, rfl, X, Below.refl _ _⟩
        case round =>
          obtain ⟨j, kk, hj, rfl, rfl, HV, hb⟩ := hrel
          obtain ⟨⟨q0, q1, q2⟩, hbw, hszr⟩ := HX.out _ hb
          by_cases hlt : j < t.ks.length
          · have l1 : (j : Int) < (t.ks.length : Int) := by omega
            obtain ⟨b, f0, rfl, hbl, hc⟩ := HR.out.out (by omega)
            obtain ⟨ka, kc, c0, c1, c2, hRk⟩ := hc j hlt
            have d0 := (hbw.cell (p := ⟨b, f0 + j * 3, none⟩) hbl).trans c0
            have d1 := (hbw.cell (p := ⟨b, f0 + j * 3 + 1, none⟩) hbl).trans c1
            have d2 := (hbw.cell (p := ⟨b, f0 + j * 3 + 2, none⟩) hbl).trans c2
            have HRk := Lib.hid (hRk.step hbw)
            have hstep := chkL_step hlt (d + 1) kk
            rw [HV.out] at hstep
            have hu := kd_sz hlt
            have hd2 : d + 1 + (n : Int) ≤ 1000000000 := by omega
            clear hc c0 c1 c2 hRk
            generalize kd t.ks j = u at *
            have HC := Lib.hid (HIH.out u (by omega) ka kc (d + 1) kk wr HRk.out (by omega) hd2)
            obtain ⟨y, hy⟩ : ∃ y, chk u (d + 1) kk = y := ⟨_, rfl⟩
            rw [hy] at hstep HC
            clear hy hu
            obtain ⟨e2, k2⟩ := y
            by_cases he : e2 = 0
            · subst he
              have X2 : Hid (chkL (t.ks.drop (j + 1)) (d + 1) k2 = R) := Lib.hid (by rw [hstep]; rfl)
              clear hstep
              go_wp2_with (go_at_call 33; (with_reducible refine HC.out.mono ?_); rintro e w3 ⟨rfl, hb3⟩; have HB3 := Lib.hid (hb.trans (hb3.mono hb.size)); clear hb3)
              go_roundw
              case rel => exact ⟨j + 1, k2, by omega, by go_num, rfl, X2, HB3.out⟩
              case measure => simp [intOf]; try omega
            · have X2 : Hid (R = (e2, k2)) := Lib.hid (by rw [hstep, if_neg he])
              have he1 : (e2 == 0) = false := by simp [he]
              have he2 : (e2 != 0) = true := by simp [he]
              clear hstep
              go_wp2_with (go_at_call 33; (with_reducible refine HC.out.mono ?_); rintro e w3 ⟨rfl, hb3⟩; have HB3 := Lib.hid (hb.trans (hb3.mono hb.size)); clear hb3)
              go_ret2
              exact ⟨by rw [X2.out]; rfl, (HX.out _ HB3.out).2.1⟩
          · have l1 : ¬ (j : Int) < (t.ks.length : Int) := by omega
            obtain rfl : j = t.ks.length := by omega
            have X2 : Hid (R = (0, kk)) := Lib.hid (by have := HV.out; rw [List.drop_length] at this; exact this.symm)
            go_wp2
            go_ret2
            exact ⟨by rw [X2.out]; rfl, hbw⟩
    · have h := rf_check_er t.op t.vr t.ks.length A c d k w (chk t d k) hne (by rw [chk_eq, if_neg hne])
      exact h
end Go.Proofs.Ytipapemcedkinaa
