/- Structural equality of trees; EqualFunc, Same and the specification's Same; layer 30 (terms). -/
import Derived.Test.YtcdpjodnbegepaaWk1
namespace Go.Proofs.Ytcdpjodnbegepaa
open Go.RowKit Go.PlainAid

def ValP (w : World) (b : Bool) (e : Ending) (w' : World) : Prop := e = .returned (.bool b) ∧ Below w.heap.size w w'
mutual
def eqE : Ex → Ex → Bool | .mk o v m ks, u => o == u.op && (v == u.vr && ((m.toList == u.nm.toList) && eqL ks u.ks))
def eqL : List Ex → List Ex → Bool
  | [], l => l.isEmpty
  | t :: r, l => match l with
    | [] => false
    | u :: s => eqE t u && eqL r s
end
theorem eqE_eq (t u : Ex) : eqE t u = (t.op == u.op && (t.vr == u.vr && ((t.nm.toList == u.nm.toList) && eqL t.ks u.ks))) := by cases t; rfl
mutual
theorem eqE_refl : ∀ t : Ex, eqE t t = true
  | .mk o v m ks => by
    show (o == o && (v == v && ((m.toList == m.toList) && eqL ks ks))) = true
    rw [eqL_refl ks]
    simp
theorem eqL_refl : ∀ l : List Ex, eqL l l = true
  | [] => rfl
  | t :: r => by
    show (eqE t t && eqL r r) = true
    rw [eqE_refl t, eqL_refl r]; rfl
end
mutual
theorem eqE_sz : ∀ t u : Ex, eqE t u = true → t.sz = u.sz
  | .mk o v m ks, .mk o' v' m' ks', h => by
    have h2 : (o == o' && (v == v' && ((m.toList == m'.toList) && eqL ks ks'))) = true := h
    simp only [Bool.and_eq_true] at h2
    have h3 := eqL_sz ks ks' h2.2.2.2
    have e1 := sz_eq (.mk o v m ks)
    have e2 := sz_eq (.mk o' v' m' ks')
    have e3 : (Ex.mk o v m ks).ks = ks := rfl
    have e4 : (Ex.mk o' v' m' ks').ks = ks' := rfl
    rw [e3] at e1
    rw [e4] at e2
    omega
theorem eqL_sz : ∀ l m : List Ex, eqL l m = true → szL l = szL m ∧ l.length = m.length
  | [], [], _ => ⟨rfl, rfl⟩
  | [], u :: s, h => by cases h
  | t :: r, [], h => by cases h
  | t :: r, u :: s, h => by
    have h2 : (eqE t u && eqL r s) = true := h
    simp only [Bool.and_eq_true] at h2
    have h3 := eqE_sz t u h2.1
    obtain ⟨h4, h5⟩ := eqL_sz r s h2.2
    refine ⟨?_, by simp [h5]⟩
    show t.sz + szL r = u.sz + szL s
    omega
end
theorem eqL_len {l m : List Ex} (h : l.length ≠ m.length) : eqL l m = false := by
  cases e : eqL l m with
  | false => rfl
  | true => exact absurd (eqL_sz l m e).2 h
theorem eqL_step {l m : List Ex} {i : Nat} (h : i < l.length) (h2 : i < m.length) : eqL (l.drop i) (m.drop i) = (eqE (kd l i) (kd m i) && eqL (l.drop (i + 1)) (m.drop (i + 1))) := by
  rw [kd_drop h, kd_drop h2]; rfl
def EqH (f : Nat) (ks us : List Ex) : Prop := ∀ i, i < ks.length → ∀ A c B d w, Rep w.heap.size w A (kd ks i) → Rep w.heap.size w B (kd us i) → Calls Try.prog f #[exV (kd ks i) A c, exV (kd us i) B d] w (ValP w (eqE (kd ks i) (kd us i)))
set_option maxRecDepth 100000 in
set_option maxHeartbeats 4000000 in
theorem pr_EqualFunc (t u : Ex) (A B : Option Addr) (c d : Nat) (w : World) (hA : Rep w.heap.size w A t) (hB : Rep w.heap.size w B u) (ht : t.ks.length ≤ 1000000000) (_hu : u.ks.length ≤ 1000000000) (hS : EqH 27 t.ks u.ks) :
    Calls Try.prog 55 #[.slice A t.ks.length c, .slice B u.ks.length d, .func (.func 27) #[] #[]] w (ValP w (eqL t.ks u.ks)) := by
  have HA := Lib.hid hA
  have HB := Lib.hid hB
  have HS := Lib.hid hS
  clear hA hB hS
  by_cases hl : t.ks.length = u.ks.length
  · have hne : ((t.ks.length : Int) != (u.ks.length : Int)) = false := by simp [hl]
    have hle : t.ks.length ≤ u.ks.length := by omega
    have hle2 : u.ks.length ≤ t.ks.length := by omega
    clear hl
    obtain ⟨R, hR⟩ : ∃ R, eqL t.ks u.ks = R := ⟨_, rfl⟩
    have HR0 : Hid (eqL (t.ks.drop 0) (u.ks.drop 0) = R) := Lib.hid hR
    rw [hR]
    clear hR
    go_enter Try.func55, Try.ntmps55
    go_wp2
    go_loopw [17] (fun i wr => ∃ k : Nat, k ≤ t.ks.length ∧ i = .int .i64 (k : Int) ∧ Hid (eqL (t.ks.drop k) (u.ks.drop k) = R) ∧ Hid (Below w.heap.size w wr)) (fun i _ => t.ks.length - (intOf i).toNat)
    case atStart => exact ⟨0, Nat.zero_le _, rfl, HR0, Lib.hid (Below.refl _ _)⟩
    case round =>
      obtain ⟨k, hk, rfl, HV, HW⟩ := hrel
      have hk0 : (0 : Int) ≤ (k : Int) := by omega
      by_cases hlt : k < t.ks.length
      · have hlt2 : k < u.ks.length := by omega
        have h1 : (k : Int) < (t.ks.length : Int) := by omega
        have h2 : (k : Int) < (u.ks.length : Int) := by omega
        obtain ⟨b, f0, rfl, hb, hc⟩ := HA.out.out (by omega)
        obtain ⟨b2, f2, rfl, hb2, hc2⟩ := HB.out.out (by omega)
        obtain ⟨ka, kc, c0, c1, c2, c3, hRk⟩ := hc k hlt
        obtain ⟨kb, kd2, e0, e1, e2, e3, hRk2⟩ := hc2 k hlt2
        have d0 := (HW.out.cell (p := ⟨b, f0 + k * 4, none⟩) hb).trans c0
        have d1 := (HW.out.cell (p := ⟨b, f0 + k * 4 + 1, none⟩) hb).trans c1
        have d2 := (HW.out.cell (p := ⟨b, f0 + k * 4 + 2, none⟩) hb).trans c2
        have d6 := (HW.out.cell (p := ⟨b, f0 + k * 4 + 3, none⟩) hb).trans c3
        have d3 := (HW.out.cell (p := ⟨b2, f2 + k * 4, none⟩) hb2).trans e0
        have d4 := (HW.out.cell (p := ⟨b2, f2 + k * 4 + 1, none⟩) hb2).trans e1
        have d5 := (HW.out.cell (p := ⟨b2, f2 + k * 4 + 2, none⟩) hb2).trans e2
        have d7 := (HW.out.cell (p := ⟨b2, f2 + k * 4 + 3, none⟩) hb2).trans e3
        have hzr := HW.out.size
        have g1 : b < wr.heap.size := by omega
        have g2 : b2 < wr.heap.size := by omega
        have hst := eqL_step hlt hlt2
        rw [HV.out] at hst
        have HC : Hid (∀ wx, Below wr.heap.size wr wx → Calls Try.prog 27 #[exV (kd t.ks k) ka kc, exV (kd u.ks k) kb kd2] wx (ValP wx (eqE (kd t.ks k) (kd u.ks k)))) := Lib.hid (fun wx hx => HS.out k hlt ka kc kb kd2 wx ((hRk.step HW.out).step hx) ((hRk2.step HW.out).step hx))
        have HAL : Hid (∀ o1 o2, Below wr.heap.size wr ((wr.alloc o1).alloc o2)) := Lib.hid (fun o1 o2 => bt (bal _ _) (bal _ _))
        obtain ⟨q, hq⟩ : ∃ q, eqE (kd t.ks k) (kd u.ks k) = q := ⟨_, rfl⟩
        rw [hq] at HC hst
        have HST := Lib.hid hst
        clear hst hq hc hc2 c0 c1 c2 c3 e0 e1 e2 e3 hRk hRk2 hb hb2 hzr
        generalize kd t.ks k = x1 at *
        generalize kd u.ks k = x2 at *
        cases q
        · have X : Hid (R = false) := Lib.hid HST.out
          go_wp2_with (go_at_call 27; (with_reducible refine (HC.out _ (HAL.out _ _)).mono ?_); rintro e w2 ⟨rfl, hb2⟩; have HB2 := Lib.hid hb2; clear hb2)
          go_ret
          exact ⟨by rw [X.out]; rfl, HW.out.trans ((bt (HAL.out _ _) HB2.out).mono HW.out.size)⟩
        · have X : Hid (eqL (t.ks.drop (k + 1)) (u.ks.drop (k + 1)) = R) := Lib.hid (by have := HST.out; simpa using this.symm)
          go_wp2_with (go_at_call 27; (with_reducible refine (HC.out _ (HAL.out _ _)).mono ?_); rintro e w2 ⟨rfl, hb2⟩; have HB2 := Lib.hid hb2; clear hb2)
          exact ⟨⟨k + 1, by omega, by go_num, X, Lib.hid (HW.out.trans ((bt (HAL.out _ _) HB2.out).mono HW.out.size))⟩, by simp [intOf]; omega⟩
      · have X : Hid (R = true) := Lib.hid (by
          have := HV.out
          rw [List.drop_of_length_le (by omega), List.drop_of_length_le (by omega)] at this
          rw [← this]; rfl)
        go_wp2
        go_ret
        exact ⟨by rw [X.out]; rfl, HW.out⟩
  · have hne : ((t.ks.length : Int) != (u.ks.length : Int)) = true := by simp; omega
    have X : Hid (eqL t.ks u.ks = false) := Lib.hid (eqL_len hl)
    clear hl
    go_enter Try.func55, Try.ntmps55
    go_wp2
    go_ret
    exact ⟨by rw [X.out]; rfl, Below.refl _ _⟩
set_option maxRecDepth 100000 in
set_option maxHeartbeats 4000000 in
theorem pr_Same : ∀ (n : Nat) (t : Ex), t.sz ≤ n → n ≤ 100000000 → ∀ (u : Ex), u.sz ≤ 100000000 → ∀ (A B : Option Addr) (c d : Nat) (w : World), Rep w.heap.size w A t → Rep w.heap.size w B u →
    Calls Try.prog 27 #[exV t A c, exV u B d] w (ValP w (eqE t u)) := by
  intro n
  induction n with
  | zero => intro t h; have := sz_eq t; omega
  | succ n ih =>
    intro t ht hn u hu A B c d w hA hB
    have h1 := szL_len t.ks
    have h2 := sz_eq t
    have h3 := szL_len u.ks
    have h4 := sz_eq u
    have HS : Hid (EqH 27 t.ks u.ks) := Lib.hid (fun i hi A c B d w ha hb => by
      have := kd_sz hi
      by_cases hj : i < u.ks.length
      · have := kd_sz hj
        exact ih (kd t.ks i) (by omega) (by omega) (kd u.ks i) (by omega) A B c d w ha hb
      · have e : kd u.ks i = ex0 := by unfold kd; rw [List.getD, List.getElem?_eq_none (by omega)]; rfl
        exact ih (kd t.ks i) (by omega) (by omega) (kd u.ks i) (by rw [e]; decide) A B c d w ha hb)
    have HE : Hid (∀ o1 o2, Calls Try.prog 55 #[.slice A t.ks.length c, .slice B u.ks.length d, .func (.func 27) #[] #[]] ((w.alloc o1).alloc o2) (ValP ((w.alloc o1).alloc o2) (eqL t.ks u.ks))) := Lib.hid (fun o1 o2 => pr_EqualFunc t u A B c d _ ((hA.step (bal _ _)).step (bal _ _)) ((hB.step (bal _ _)).step (bal _ _)) (by omega) (by omega) HS.out)
    have HAL : Hid (∀ o1 o2, Below w.heap.size w ((w.alloc o1).alloc o2)) := Lib.hid (fun o1 o2 => bt (bal _ _) (bal _ _))
    obtain ⟨R, hR⟩ : ∃ R, eqE t u = R := ⟨_, rfl⟩
    rw [hR]
    rw [eqE_eq] at hR
    clear h1 h2 h3 h4 HS ih hA hB ht hu hn
    obtain ⟨o, v, m, ks⟩ := t
    obtain ⟨o', v', m', us⟩ := u
    have hR' : (o == o' && (v == v' && ((m.toList == m'.toList) && eqL ks us))) = R := hR
    clear hR
    have HE2 : Hid (∀ o1 o2, Calls Try.prog 55 #[.slice A ks.length c, .slice B us.length d, .func (.func 27) #[] #[]] ((w.alloc o1).alloc o2) (ValP ((w.alloc o1).alloc o2) (eqL ks us))) := HE
    clear HE
    show Calls Try.prog 27 #[.agg #[.int .i64 o, .int .i64 v, .string m, .slice A ks.length c], .agg #[.int .i64 o', .int .i64 v', .string m', .slice B us.length d]] w (ValP w R)
    by_cases ho : o = o'
    · subst ho
      by_cases hv : v = v'
      · subst hv
        obtain ⟨q0, hq0⟩ : ∃ q0, (m.toList == m'.toList) = q0 := ⟨_, rfl⟩
        rw [hq0] at hR'
        cases q0
        · have X : Hid (R = false) := Lib.hid (by rw [← hR']; simp)
          clear hR'
          go_enter Try.func27, Try.ntmps27
          go_wp2
          go_ret
          exact ⟨by rw [X.out]; rfl, HAL.out _ _⟩
        · have X : Hid (R = eqL ks us) := Lib.hid (by rw [← hR']; simp)
          clear hR'
          generalize eqL ks us = q at *
          go_enter Try.func27, Try.ntmps27
          go_wp2_with (go_at_call 55; (with_reducible refine (HE2.out _ _).mono ?_); rintro e w2 ⟨rfl, hb2⟩; have HB2 := Lib.hid hb2; clear hb2)
          go_ret
          exact ⟨by rw [X.out]; rfl, bt (HAL.out _ _) HB2.out⟩
      · have hv1 : (v == v') = false := by simp [hv]
        have X : Hid (R = false) := Lib.hid (by rw [← hR', hv1]; simp)
        clear hR' hv
        go_enter Try.func27, Try.ntmps27
        go_wp2
        go_ret
        exact ⟨by rw [X.out]; rfl, HAL.out _ _⟩
    · have ho1 : (o == o') = false := by simp [ho]
      have X : Hid (R = false) := Lib.hid (by rw [← hR', ho1]; simp)
      clear hR' ho
      go_enter Try.func27, Try.ntmps27
      go_wp2
      go_ret
      exact ⟨by rw [X.out]; rfl, HAL.out _ _⟩
end Go.Proofs.Ytcdpjodnbegepaa
