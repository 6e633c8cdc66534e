/- The contract of visit of layer 7 (ptext). -/
import Derived.Test.YtipapemcedkinaaFn1
namespace Go.Proofs.Ytipapemcedkinaa
open Go.RowKit

mutual
/-- What visit leaves of a state, and whether it went to the end. -/
def vis {σ : Type} (st : σ → Ex → Int → σ × Bool) : Ex → Int → σ → σ × Bool
  | .mk o v ks, d, s => if (st s (.mk o v ks) d).2 then visL st ks (d + 1) (st s (.mk o v ks) d).1 else ((st s (.mk o v ks) d).1, false)
def visL {σ : Type} (st : σ → Ex → Int → σ × Bool) : List Ex → Int → σ → σ × Bool
  | [], _, s => (s, true)
  | t :: r, d, s => if (vis st t d s).2 then visL st r d (vis st t d s).1 else ((vis st t d s).1, false)
end
theorem vis_eq {σ : Type} (st : σ → Ex → Int → σ × Bool) (t : Ex) (d : Int) (s : σ) : vis st t d s = if (st s t d).2 then visL st t.ks (d + 1) (st s t d).1 else ((st s t d).1, false) := by cases t; rfl
theorem visL_step {σ : Type} (st : σ → Ex → Int → σ × Bool) {l : List Ex} {k : Nat} (h : k < l.length) (d : Int) (s : σ) : visL st (l.drop k) d s = if (vis st (kd l k) d s).2 then visL st (l.drop (k + 1)) d (vis st (kd l k) d s).1 else ((vis st (kd l k) d s).1, false) := by
  rw [kd_drop h]; rfl
def doArgs (_f : Nat) (x d p q : Value) : Array Value := #[x, d, p, q]
abbrev Inv (σ : Type) := (Nat → Prop) → σ → World → Prop
def VisP {σ : Type} (I : Inv σ) (S : Nat → Prop) (w : World) (R : σ × Bool) (e : Ending) (w' : World) : Prop := e = .returned (.bool R.2) ∧ I S R.1 w' ∧ Frm S w w'
/-- What a state that is kept in memory must bear: other memory grows, S shrinks where it owns nothing and grows. -/
structure KeptI {σ : Type} (I : Inv σ) : Prop where
  step : ∀ S s w w', I S s w → Below w.heap.size w w' → I S s w'
  narrow : ∀ S s w h, I S s w → w.heap.size ≤ h → I (fun b => S b ∧ b ≠ h) s w
  widen : ∀ S S' s w, I S s w → (∀ b, S b → S' b) → I S' s w
set_option maxHeartbeats 4000000 in
theorem pr_visit {σ : Type} (f : Nat) (C : Array Value) (I : Inv σ) (st : σ → Ex → Int → σ × Bool) (B : Nat) (p q : Value) (hf : f = 28 ∧ C = #[p, q])
    (hst : KeptI I)
    (hdo : ∀ S s w t A c (d : Int), I S s w → (∀ b, b < B → ¬ S b) → (∀ b, w.heap.size ≤ b → S b) → B ≤ w.heap.size → Rep B w A t → 0 ≤ d → d ≤ 1000000000 → Calls Try.prog f (doArgs f (exV t A c) (.int .i64 d) p q) w (VisP I S w (st s t d))) :
    ∀ (n : Nat) t, t.sz ≤ n → ∀ A c (d : Int) S s w, I S s w → (∀ b, b < B → ¬ S b) → (∀ b, w.heap.size ≤ b → S b) → B ≤ w.heap.size → Rep B w A t → 0 ≤ d → d + (n : Int) ≤ 1000000000 →
      Calls Try.prog 27 #[exV t A c, .int .i64 d, .func (.func f) #[] C] w (VisP I S w (vis st t d s)) := by
  intro n
  induction n with
  | zero => intro t h; have := sz_eq t; omega
  | succ n ih =>
    intro t ht A c d S s w hI hS hF hB hR hd0 hd1
    have HDO := Lib.hid hdo
    have HIH := Lib.hid ih
    have HI := Lib.hid hI
    have HR := Lib.hid hR
    have HST := Lib.hid hst
    have HS := Lib.hid hS
    have HF := Lib.hid hF
    clear hdo ih hI hR hst hS hF
    have hlen := szL_len t.ks
    have hszt := sz_eq t
    have hkb : t.ks.length ≤ 1000000000 := by omega
    clear hszt
    obtain ⟨R, hRR⟩ : ∃ R, vis st t d s = R := ⟨_, rfl⟩
    rw [hRR]
    rw [vis_eq] at hRR
    have HAL : Hid (∀ ob, Below w.heap.size w (w.alloc ob)) := Lib.hid (fun ob => (Below.refl _ _).alloc (Nat.le_refl _) ob)
    obtain ⟨h, hh⟩ : ∃ h, w.heap.size = h := ⟨_, rfl⟩
    obtain ⟨S1, hS1⟩ : ∃ S1, (fun b => S b ∧ b ≠ w.heap.size) = S1 := ⟨_, rfl⟩
    have HS1 : Hid (∀ b, S1 b → S b) := Lib.hid (fun b => by rw [← hS1]; exact fun x => x.1)
    have HSB : Hid (∀ b, b < B → ¬ S1 b) := Lib.hid (fun b hb x => HS.out b hb (HS1.out b x))
    have HSN : Hid (¬ S1 w.heap.size) := Lib.hid (by rw [← hS1]; exact fun x => x.2 rfl)
    have HSF : Hid (∀ b, w.heap.size + 1 ≤ b → S1 b) := Lib.hid (fun b hb => by rw [← hS1]; exact ⟨HF.out b (by omega), by omega⟩)
    have HI1 : Hid (I S1 s w) := Lib.hid (by rw [← hS1]; exact HST.out.narrow _ _ _ _ HI.out (Nat.le_refl _))
    clear hS1 hh
    obtain ⟨x, hx⟩ : ∃ x, st s t d = x := ⟨_, rfl⟩
    have hD := Lib.hid (fun w' (h0 : I S1 s w') (hF : ∀ b, w'.heap.size ≤ b → S1 b) h2 (h3 : Rep B w' A t) => HDO.out S1 s w' t A c d h0 HSB.out hF h2 h3 hd0 (by omega))
    rw [hx] at hRR hD
    obtain ⟨s1, b1⟩ := x
    clear hx
    have hE0 : Hid (Calls Try.prog f (doArgs f (exV t A c) (.int .i64 d) p q) (w.alloc (.cells (exC t A c) 25)) (VisP I S1 (w.alloc (.cells (exC t A c) 25)) (s1, b1))) :=
      Lib.hid (hD.out _ (HST.out.step _ _ _ _ HI1.out (HAL.out _)) (fun b hb => HSF.out b (by simpa using hb)) (by simp; omega) (HR.out.under ((HAL.out _).mono hB)))
    clear hD
    have HX : Hid (∀ w1, Frm S1 (w.alloc (.cells (exC t A c) 25)) w1 → Blk w1 w.heap.size 25 (exC t A c) ∧ Frm S w w1) := Lib.hid (fun w1 hf1 => ⟨(Blk.new w 25 _).frm hf1 HSN.out, (Frm.of_below (HAL.out _)).trans (hf1.mono HS1.out)⟩)
    obtain ⟨rfl, rfl⟩ := hf
    all_goals
      first
        | (have hE : Hid (Calls Try.prog 28 #[exV t A c, .int .i64 d, p, q] (w.alloc (.cells (exC t A c) 25)) (VisP I S1 (w.alloc (.cells (exC t A c) 25)) (s1, b1))) := hE0)
      clear hE0
      cases b1
      · have X : Hid (R = (s1, false)) := Lib.hid hRR.symm
        clear hRR
        go_enter Try.func27, Try.ntmps27
        go_wp2_with (go_at_call 28; (with_reducible refine hE.out.mono ?_); rintro e w1 ⟨rfl, hI2, hb1⟩; have HI2 := Lib.hid hI2; have HB1 := Lib.hid hb1; clear hI2 hb1)
        go_ret
        rw [X.out]
        exact ⟨rfl, HST.out.widen _ _ _ _ HI2.out HS1.out, (HX.out _ HB1.out).2⟩
      · have hRR2 : visL st (t.ks.drop 0) (d + 1) s1 = R := hRR
        have X := Lib.hid hRR2
        clear hRR hRR2
        go_enter Try.func27, Try.ntmps27
        go_wp2_with (go_at_call 28; (with_reducible refine hE.out.mono ?_); rintro e w1 ⟨rfl, hI2, hb1⟩; have HI2 := Lib.hid hI2; have HB1 := Lib.hid hb1; have q0 : w1.cell? ⟨w.heap.size, 0, none⟩ = some (.int .i64 t.op) := (HX.out _ hb1).1.cell 0; have q1 : w1.cell? ⟨w.heap.size, 1, none⟩ = some (.int .i64 t.vr) := (HX.out _ hb1).1.cell 1; have q2 : w1.cell? ⟨w.heap.size, 2, none⟩ = some (.slice A t.ks.length c) := (HX.out _ hb1).1.cell 2; clear hI2 hb1)
        go_loopw [17] (fun i wr => ∃ (k : Nat) (sk : σ), k ≤ t.ks.length ∧ i = .int .i64 (k : Int) ∧ Hid (visL st (t.ks.drop k) (d + 1) sk = R) ∧ Hid (I S1 sk wr) ∧ Hid (Frm S1 w1 wr)) (fun i _ => t.ks.length - (intOf i).toNat)
        case atStart => exact ⟨0, s1, Nat.zero_le _, rfl, X, HI2, Lib.hid (Frm.refl _ _)⟩
        case round =>
          obtain ⟨k, sk, hk, rfl, HV, HIk, HFk⟩ := hrel
          have HW : Hid (Frm S w wr) := Lib.hid ((HX.out _ HB1.out).2.trans (HFk.out.mono HS1.out))
          by_cases hlt : k < t.ks.length
          · have h1 : (k : Int) < (t.ks.length : Int) := by omega
            obtain ⟨b, f0, rfl, hb, hc⟩ := HR.out.out (by omega)
            obtain ⟨ka, kc, c0, c1, c2, hRk⟩ := hc k hlt
            have hbw := HW.out.below2 HS.out hB
            have d0 := (hbw.cell (p := ⟨b, f0 + k * 3, none⟩) hb).trans c0
            have d1 := (hbw.cell (p := ⟨b, f0 + k * 3 + 1, none⟩) hb).trans c1
            have d2 := (hbw.cell (p := ⟨b, f0 + k * 3 + 2, none⟩) hb).trans c2
            have HRk := Lib.hid (hRk.under hbw)
            have hstep := visL_step st hlt (d + 1) sk
            rw [HV.out] at hstep
            have hu := kd_sz hlt
            have hd2 : d + 1 + (n : Int) ≤ 1000000000 := by omega
            have hszw := HW.out.size
            have hsz1 := HB1.out.size
            have hszr := HFk.out.size
            have hz1 : w.heap.size + 1 ≤ w1.heap.size := by simpa using hsz1
            clear hc c0 c1 c2 hRk hbw hsz1
            generalize kd t.ks k = u at *
            obtain ⟨y, hy⟩ : ∃ y, vis st u (d + 1) sk = y := ⟨_, rfl⟩
            rw [hy] at hstep
            have hA : Below wr.heap.size wr (wr.alloc (.cells (exC u ka kc) 25)) := (Below.refl _ _).alloc (Nat.le_refl _) _
            have hszA : (wr.alloc (.cells (exC u ka kc) 25)).heap.size = wr.heap.size + 1 := by simp
            have HC := Lib.hid (HIH.out u (by omega) ka kc (d + 1) S1 sk (wr.alloc (.cells (exC u ka kc) 25)) (HST.out.step _ _ _ _ HIk.out hA) HSB.out (fun b hb => HSF.out b (by rw [hszA] at hb; omega)) (by rw [hszA]; omega) (HRk.out.under (hA.mono (by omega))) (by omega) hd2)
            rw [hy] at HC
            clear hA hszA
            have HFA : Hid (Frm S1 w1 (wr.alloc (.cells (exC u ka kc) 25))) := Lib.hid (HFk.out.alloc _)
            clear hy hu
            obtain ⟨s2, b2⟩ := y
            cases b2
            · have X2 : Hid (R = (s2, false)) := Lib.hid hstep
              clear hstep
              go_wp2_with (go_at_call 27; (with_reducible refine HC.out.mono ?_); rintro e w3 ⟨rfl, hI3, hb3⟩; have HI3 := Lib.hid hI3; have HB3 := Lib.hid hb3; clear hI3 hb3)
              go_ret
              rw [X2.out]
              exact ⟨rfl, HST.out.widen _ _ _ _ HI3.out HS1.out, (HX.out _ HB1.out).2.trans ((HFA.out.trans HB3.out).mono HS1.out)⟩
            · have X2 : Hid (visL st (t.ks.drop (k + 1)) (d + 1) s2 = R) := Lib.hid hstep.symm
              clear hstep
              go_wp2_with (go_at_call 27; (with_reducible refine HC.out.mono ?_); rintro e w3 ⟨rfl, hI3, hb3⟩; have HI3 := Lib.hid hI3; have HB3 := Lib.hid hb3; clear hI3 hb3)
              go_roundw
              case rel => exact ⟨k + 1, s2, by omega, by go_num, X2, HI3, Lib.hid (HFA.out.trans HB3.out)⟩
              case measure => simp [intOf]; try omega
          · have h1 : ¬ (k : Int) < (t.ks.length : Int) := by omega
            obtain rfl : k = t.ks.length := by omega
            have X2 : Hid (R = (sk, true)) := Lib.hid (by have := HV.out; rw [List.drop_length] at this; exact this.symm)
            go_wp2
            go_ret
            rw [X2.out]
            exact ⟨rfl, HST.out.widen _ _ _ _ HIk.out HS1.out, HW.out⟩
end Go.Proofs.Ytipapemcedkinaa
