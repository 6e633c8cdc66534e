/- The contract of visit of layer 32 (forms). Check of layer 32 (forms). The state of collect: a row of the call's own behind a captured cell; layer 32 (forms). The specification's In, Texts and With over rows of texts; layer 30 (terms). The contract of With, of layer 30 (terms). The specification's names and Names, of layer 30 (terms). The specification's one; layer 32 (forms). The specification's walk, Check and Size; layer 32 (forms). -/
import Derived.Test.YtnjkphopklbogaaMb
import Derived.Test.YtnjkphopklbogaaMa
import Derived.Deep.RegionHeld3
namespace Go.Proofs.Ytnjkphopklbogaa
open Go.RowKit

mutual
/-- What fvisit leaves of a state, and whether it went to the end. -/
def fvis {σ : Type} (st : σ → Fx → Int → σ × Bool) : Fx → Int → σ → σ × Bool
  | .mk o e ks, d, s => if (st s (.mk o e ks) d).2 then fvisL st ks (d + 1) (st s (.mk o e ks) d).1 else ((st s (.mk o e ks) d).1, false)
def fvisL {σ : Type} (st : σ → Fx → Int → σ × Bool) : List Fx → Int → σ → σ × Bool
  | [], _, s => (s, true)
  | t :: r, d, s => if (fvis st t d s).2 then fvisL st r d (fvis st t d s).1 else ((fvis st t d s).1, false)
end
theorem fvis_eq {σ : Type} (st : σ → Fx → Int → σ × Bool) (t : Fx) (d : Int) (s : σ) : fvis st t d s = if (st s t d).2 then fvisL st t.ks (d + 1) (st s t d).1 else ((st s t d).1, false) := by cases t; rfl
theorem fvisL_step {σ : Type} (st : σ → Fx → Int → σ × Bool) {l : List Fx} {k : Nat} (h : k < l.length) (d : Int) (s : σ) : fvisL st (l.drop k) d s = if (fvis st (fkd l k) d s).2 then fvisL st (l.drop (k + 1)) d (fvis st (fkd l k) d s).1 else ((fvis st (fkd l k) d s).1, false) := by
  rw [fkd_drop h]; rfl
mutual
theorem fvis_mu {σ : Type} (st : σ → Fx → Int → σ × Bool) (mu : σ → Nat) (hmu : ∀ s t d, mu (st s t d).1 ≤ mu s + t.e.sz) : ∀ (t : Fx) (d : Int) (s : σ), mu (fvis st t d s).1 ≤ mu s + t.sz
  | .mk o e ks, d, s => by
    have h1 := hmu s (.mk o e ks) d
    have h2 := fvisL_mu st mu hmu ks (d + 1) (st s (.mk o e ks) d).1
    have hz : (Fx.mk o e ks).sz = e.sz + fszL ks := rfl
    have h1' : mu (st s (.mk o e ks) d).1 ≤ mu s + e.sz := h1
    rw [fvis_eq]
    split
    · show mu (fvisL st ks (d + 1) (st s (.mk o e ks) d).1).1 ≤ _
      omega
    · show mu (st s (.mk o e ks) d).1 ≤ _
      omega
theorem fvisL_mu {σ : Type} (st : σ → Fx → Int → σ × Bool) (mu : σ → Nat) (hmu : ∀ s t d, mu (st s t d).1 ≤ mu s + t.e.sz) : ∀ (l : List Fx) (d : Int) (s : σ), mu (fvisL st l d s).1 ≤ mu s + fszL l
  | [], d, s => by show mu s ≤ mu s + 0; omega
  | t :: r, d, s => by
    have h1 := fvis_mu st mu hmu t d s
    have h2 := fvisL_mu st mu hmu r d (fvis st t d s).1
    have hz : fszL (t :: r) = t.sz + fszL r := rfl
    show mu (if (fvis st t d s).2 then fvisL st r d (fvis st t d s).1 else ((fvis st t d s).1, false)).1 ≤ _
    split
    · omega
    · show mu (fvis st t d s).1 ≤ _
      omega
end
theorem fszL_drop {l : List Fx} {k : Nat} (h : k < l.length) : fszL (l.drop k) = (fkd l k).sz + fszL (l.drop (k + 1)) := by rw [fkd_drop h]; rfl
def fdoArgs (f : Nat) (x d p q : Value) : Array Value := if f = 43 then #[x, d] else #[x, d, p, q]
set_option maxHeartbeats 4000000 in
theorem pr_fvisit {σ : Type} (f : Nat) (C : Array Value) (I : Inv σ) (st : σ → Fx → Int → σ × Bool) (B : Nat) (p q : Value) (mu : σ → Nat) (M : Nat) (hmu : ∀ s t d, mu (st s t d).1 ≤ mu s + t.e.sz) (hf : f = 31 ∧ C = #[p, q] ∨ f = 43 ∧ C = #[] ∨ f = 59 ∧ C = #[p, q] ∨ f = 75 ∧ C = #[p, q] ∨ f = 95 ∧ C = #[p, q])
    (hst : KeptI I)
    (hdo : ∀ S s w t E eC A c (d : Int), I S s w → (∀ b, b < B → ¬ S b) → (∀ b, w.heap.size ≤ b → S b) → B ≤ w.heap.size → Fm B w t E A → 0 ≤ d → d ≤ 1000000000 → t.sz ≤ 100000000 → mu s + t.e.sz ≤ M → Calls Try.prog f (fdoArgs f (fV t E eC A c) (.int .i64 d) p q) w (VisP I S w (st s t d))) :
    ∀ (n : Nat) t, t.sz ≤ n → n ≤ 100000000 → ∀ E eC A c (d : Int) S s w, I S s w → (∀ b, b < B → ¬ S b) → (∀ b, w.heap.size ≤ b → S b) → B ≤ w.heap.size → Fm B w t E A → 0 ≤ d → d + (n : Int) ≤ 1000000000 → mu s + t.sz ≤ M →
      Calls Try.prog 30 #[fV t E eC A c, .int .i64 d, .func (.func f) #[] C] w (VisP I S w (fvis st t d s)) := by
  intro n
  induction n with
  | zero => intro t h; have := fsz_pos t; omega
  | succ n ih =>
    intro t ht hnn E eC A c d S s w hI hS hF hB hR hd0 hd1 hM
    have HDO := Lib.hid hdo
    have HMU := Lib.hid hmu
    have hMe : mu s + t.e.sz + fszL t.ks ≤ M := by have := fsz_eq t; omega
    have HIH := Lib.hid ih
    have HI := Lib.hid hI
    have HR := Lib.hid hR
    have HST := Lib.hid hst
    have HS := Lib.hid hS
    have HF := Lib.hid hF
    clear hdo ih hI hR hst hS hF
    have hkb : t.ks.length ≤ 1000000000 := by have := fkl_sz t; omega
    obtain ⟨R, hRR⟩ : ∃ R, fvis st t d s = R := ⟨_, rfl⟩
    rw [hRR]
    rw [fvis_eq] at hRR
    have HAL : Hid (∀ ob, Below w.heap.size w (w.alloc ob)) := Lib.hid (fun ob => (Below.refl _ _).alloc (Nat.le_refl _) ob)
    obtain ⟨h, hh⟩ : ∃ h, w.heap.size = h := ⟨_, rfl⟩
    obtain ⟨S1, hS1⟩ : ∃ S1, (fun b => S b ∧ b ≠ w.heap.size) = S1 := ⟨_, rfl⟩
    have HS1 : Hid (∀ b, S1 b → S b) := Lib.hid (fun b => by rw [← hS1]; exact fun x => x.1)
    have HSB : Hid (∀ b, b < B → ¬ S1 b) := Lib.hid (fun b hb x => HS.out b hb (HS1.out b x))
    have HSN : Hid (¬ S1 w.heap.size) := Lib.hid (by rw [← hS1]; exact fun x => x.2 rfl)
    have HSF : Hid (∀ b, w.heap.size + 1 ≤ b → S1 b) := Lib.hid (fun b hb => by rw [← hS1]; exact ⟨HF.out b (by omega), by omega⟩)
    have HI1 : Hid (I S1 s w) := Lib.hid (by rw [← hS1]; exact HST.out.narrow _ _ _ _ HI.out (Nat.le_refl _))
    clear hS1 hh
    obtain ⟨x, hx⟩ : ∃ x, st s t d = x := ⟨_, rfl⟩
    have hD := Lib.hid (fun w' (h0 : I S1 s w') (hF : ∀ b, w'.heap.size ≤ b → S1 b) h2 (h3 : Fm B w' t E A) => HDO.out S1 s w' t E eC A c d h0 HSB.out hF h2 h3 hd0 (by omega) (by omega) (by omega))
    have hm1 := hmu s t d
    rw [hx] at hRR hD hm1
    obtain ⟨s1, b1⟩ := x
    have HM1 : Hid (mu s1 + fszL (t.ks.drop 0) ≤ M) := Lib.hid (by have h : mu s1 ≤ mu s + t.e.sz := hm1; show mu s1 + fszL t.ks ≤ M; omega)
    clear hx hm1
    have hE0 : Hid (Calls Try.prog f (fdoArgs f (fV t E eC A c) (.int .i64 d) p q) (w.alloc (.cells (fC t E eC A c) 27)) (VisP I S1 (w.alloc (.cells (fC t E eC A c) 27)) (s1, b1))) :=
      Lib.hid (hD.out _ (HST.out.step _ _ _ _ HI1.out (HAL.out _)) (fun b hb => HSF.out b (by simpa using hb)) (by simp; omega) (HR.out.under ((HAL.out _).mono hB)))
    clear hD
    have HX : Hid (∀ w1, Frm S1 (w.alloc (.cells (fC t E eC A c) 27)) w1 → Blk w1 w.heap.size 27 (fC t E eC A c) ∧ Frm S w w1) := Lib.hid (fun w1 hf1 => ⟨(Blk.new w 27 _).frm hf1 HSN.out, (Frm.of_below (HAL.out _)).trans (hf1.mono HS1.out)⟩)
    rcases hf with ⟨rfl, rfl⟩ | ⟨rfl, rfl⟩ | ⟨rfl, rfl⟩ | ⟨rfl, rfl⟩ | ⟨rfl, rfl⟩
    all_goals
      first
        | (have hE : Hid (Calls Try.prog 31 #[fV t E eC A c, .int .i64 d, p, q] (w.alloc (.cells (fC t E eC A c) 27)) (VisP I S1 (w.alloc (.cells (fC t E eC A c) 27)) (s1, b1))) := hE0)
        | (have hE : Hid (Calls Try.prog 59 #[fV t E eC A c, .int .i64 d, p, q] (w.alloc (.cells (fC t E eC A c) 27)) (VisP I S1 (w.alloc (.cells (fC t E eC A c) 27)) (s1, b1))) := hE0)
        | (have hE : Hid (Calls Try.prog 75 #[fV t E eC A c, .int .i64 d, p, q] (w.alloc (.cells (fC t E eC A c) 27)) (VisP I S1 (w.alloc (.cells (fC t E eC A c) 27)) (s1, b1))) := hE0)
        | (have hE : Hid (Calls Try.prog 95 #[fV t E eC A c, .int .i64 d, p, q] (w.alloc (.cells (fC t E eC A c) 27)) (VisP I S1 (w.alloc (.cells (fC t E eC A c) 27)) (s1, b1))) := hE0)
        | (have hE : Hid (Calls Try.prog 43 #[fV t E eC A c, .int .i64 d] (w.alloc (.cells (fC t E eC A c) 27)) (VisP I S1 (w.alloc (.cells (fC t E eC A c) 27)) (s1, b1))) := hE0)
      clear hE0
      cases b1
      · have X : Hid (R = (s1, false)) := Lib.hid hRR.symm
        clear hRR
        go_enter Try.func30, Try.ntmps30
        go_wp2_with ((first | go_at_call 31 | go_at_call 43 | go_at_call 59 | go_at_call 75 | go_at_call 95); (with_reducible refine hE.out.mono ?_); rintro e w1 ⟨rfl, hI2, hb1⟩; have HI2 := Lib.hid hI2; have HB1 := Lib.hid hb1; clear hI2 hb1)
        go_ret
        rw [X.out]
        exact ⟨rfl, HST.out.widen _ _ _ _ HI2.out HS1.out, (HX.out _ HB1.out).2⟩
      · have hRR2 : fvisL st (t.ks.drop 0) (d + 1) s1 = R := hRR
        have X := Lib.hid hRR2
        clear hRR hRR2
        go_enter Try.func30, Try.ntmps30
        go_wp2_with ((first | go_at_call 31 | go_at_call 43 | go_at_call 59 | go_at_call 75 | go_at_call 95); (with_reducible refine hE.out.mono ?_); rintro e w1 ⟨rfl, hI2, hb1⟩; have HI2 := Lib.hid hI2; have HB1 := Lib.hid hb1; have hF := FAt.blk (HX.out _ hb1).1; have q0 := hF.c0; have q1 := hF.c1; have q2 := hF.c2; have q3 := hF.c3; have q4 := hF.c4; have q5 := hF.c5; clear hF; clear hI2 hb1)
        go_loopw [17] (fun i wr => ∃ (k : Nat) (sk : σ), k ≤ t.ks.length ∧ i = .int .i64 (k : Int) ∧ Hid (fvisL st (t.ks.drop k) (d + 1) sk = R) ∧ Hid (I S1 sk wr) ∧ Hid (Frm S1 w1 wr) ∧ Hid (mu sk + fszL (t.ks.drop k) ≤ M)) (fun i _ => t.ks.length - (intOf i).toNat)
        case atStart => exact ⟨0, s1, Nat.zero_le _, rfl, X, HI2, Lib.hid (Frm.refl _ _), HM1⟩
        case round =>
          obtain ⟨k, sk, hk, rfl, HV, HIk, HFk, HMk⟩ := hrel
          have HW : Hid (Frm S w wr) := Lib.hid ((HX.out _ HB1.out).2.trans (HFk.out.mono HS1.out))
          by_cases hlt : k < t.ks.length
          · have h1 : (k : Int) < (t.ks.length : Int) := by omega
            obtain ⟨b, f0, rfl, hb, hc⟩ := HR.out.2.out (by omega)
            obtain ⟨ea, ec, ka, kc, hAt, hRe, hRk⟩ := hc k hlt
            have hbw := HW.out.below2 HS.out hB
            obtain ⟨d0, d1, d2, d3, d4, d5⟩ := hAt.below hbw hb
            have HRk : Hid (Fm B wr (fkd t.ks k) ea ka) := Lib.hid ⟨hRe.under hbw, hRk.under hbw⟩
            have hstep := fvisL_step st hlt (d + 1) sk
            rw [HV.out] at hstep
            have hu := fkd_sz hlt
            have hmd := fszL_drop hlt
            have hmk := HMk.out
            rw [hmd] at hmk
            clear hmd HMk
            have hmv := fvis_mu st mu HMU.out (fkd t.ks k) (d + 1) sk
            have hd2 : d + 1 + (n : Int) ≤ 1000000000 := by omega
            have hszw := HW.out.size
            have hsz1 := HB1.out.size
            have hszr := HFk.out.size
            have hz1 : w.heap.size + 1 ≤ w1.heap.size := by simpa using hsz1
            clear hc hAt hRe hRk hbw hsz1
            generalize fkd t.ks k = u at *
            obtain ⟨y, hy⟩ : ∃ y, fvis st u (d + 1) sk = y := ⟨_, rfl⟩
            rw [hy] at hstep
            have hA : Below wr.heap.size wr (wr.alloc (.cells (fC u ea ec ka kc) 27)) := (Below.refl _ _).alloc (Nat.le_refl _) _
            have hszA : (wr.alloc (.cells (fC u ea ec ka kc) 27)).heap.size = wr.heap.size + 1 := by simp
            have HC := Lib.hid (HIH.out u (by omega) (by omega) ea ec ka kc (d + 1) S1 sk (wr.alloc (.cells (fC u ea ec ka kc) 27)) (HST.out.step _ _ _ _ HIk.out hA) HSB.out (fun b hb => HSF.out b (by rw [hszA] at hb; omega)) (by rw [hszA]; omega) (HRk.out.under (hA.mono (by omega))) (by omega) hd2 (by omega))
            rw [hy] at HC hmv
            clear hA hszA
            have HFA : Hid (Frm S1 w1 (wr.alloc (.cells (fC u ea ec ka kc) 27))) := Lib.hid (HFk.out.alloc _)
            obtain ⟨s2, b2⟩ := y
            have HM2 : Hid (mu s2 + fszL (t.ks.drop (k + 1)) ≤ M) := Lib.hid (by have h : mu s2 ≤ mu sk + u.sz := hmv; omega)
            clear hy hu hmk hmv
            cases b2
            · have X2 : Hid (R = (s2, false)) := Lib.hid hstep
              clear hstep
              go_wp2_with (go_at_call 30; (with_reducible refine HC.out.mono ?_); rintro e w3 ⟨rfl, hI3, hb3⟩; have HI3 := Lib.hid hI3; have HB3 := Lib.hid hb3; clear hI3 hb3)
              go_ret
              rw [X2.out]
              exact ⟨rfl, HST.out.widen _ _ _ _ HI3.out HS1.out, (HX.out _ HB1.out).2.trans ((HFA.out.trans HB3.out).mono HS1.out)⟩
            · have X2 : Hid (fvisL st (t.ks.drop (k + 1)) (d + 1) s2 = R) := Lib.hid hstep.symm
              clear hstep
              go_wp2_with (go_at_call 30; (with_reducible refine HC.out.mono ?_); rintro e w3 ⟨rfl, hI3, hb3⟩; have HI3 := Lib.hid hI3; have HB3 := Lib.hid hb3; clear hI3 hb3)
              go_roundw
              case rel => exact ⟨k + 1, s2, by omega, by go_num, X2, HI3, Lib.hid (HFA.out.trans HB3.out), HM2⟩
              case measure => simp [intOf]; try omega
          · have h1 : ¬ (k : Int) < (t.ks.length : Int) := by omega
            obtain rfl : k = t.ks.length := by omega
            have X2 : Hid (R = (sk, true)) := Lib.hid (by have := HV.out; rw [List.drop_length] at this; exact this.symm)
            go_wp2
            go_ret
            rw [X2.out]
            exact ⟨rfl, HST.out.widen _ _ _ _ HIk.out HS1.out, HW.out⟩
end Go.Proofs.Ytnjkphopklbogaa
namespace Go.Proofs.Ytnjkphopklbogaa
open Go.RowKit

mutual
/-- What Check answers of a node at depth d behind k nodes: the error, and the nodes so far. -/
def chF : Fx → Int → Int → Int × Int
  | .mk o e ks, d, k => if flF (.mk o e ks) d (wrap64 (k + 1)) = 0 then chFL ks (d + 1) (wrap64 (k + 1)) else (flF (.mk o e ks) d (wrap64 (k + 1)), wrap64 (k + 1))
def chFL : List Fx → Int → Int → Int × Int
  | [], _, k => (0, k)
  | t :: r, d, k => if (chF t d k).1 = 0 then chFL r d (chF t d k).2 else chF t d k
end
theorem chF_eq (t : Fx) (d k : Int) : chF t d k = if flF t d (wrap64 (k + 1)) = 0 then chFL t.ks (d + 1) (wrap64 (k + 1)) else (flF t d (wrap64 (k + 1)), wrap64 (k + 1)) := by cases t; rfl
theorem chFL_step {l : List Fx} {i : Nat} (h : i < l.length) (d k : Int) : chFL (l.drop i) d k = if (chF (fkd l i) d k).1 = 0 then chFL (l.drop (i + 1)) d (chF (fkd l i) d k).2 else chF (fkd l i) d k := by
  rw [fkd_drop h]; rfl
def chkF (t : Fx) : Int := (chF t 1 0).1
def stF (s : Int × Int) (t : Fx) (d : Int) : (Int × Int) × Bool := ((flF t d (wrap64 (s.2 + 1)), wrap64 (s.2 + 1)), flF t d (wrap64 (s.2 + 1)) == 0)
mutual
theorem fvis_chk : ∀ (t : Fx) (d f k : Int), fvis stF t d (f, k) = (chF t d k, (chF t d k).1 == 0)
  | .mk o e ks, d, f, k => by
    rw [fvis_eq, chF_eq]
    have e1 : (stF (f, k) (.mk o e ks) d).1 = (flF (.mk o e ks) d (wrap64 (k + 1)), wrap64 (k + 1)) := rfl
    have e2 : (stF (f, k) (.mk o e ks) d).2 = (flF (.mk o e ks) d (wrap64 (k + 1)) == 0) := rfl
    rw [e1, e2]
    by_cases h : flF (.mk o e ks) d (wrap64 (k + 1)) = 0
    · rw [if_pos (by simp [h]), if_pos h, h]
      exact fvisL_chk ks (d + 1) (wrap64 (k + 1))
    · rw [if_neg (by simp [h]), if_neg h]
      have : (flF (.mk o e ks) d (wrap64 (k + 1)) == 0) = false := by simp [h]
      rw [this]
theorem fvisL_chk : ∀ (l : List Fx) (d k : Int), fvisL stF l d (0, k) = (chFL l d k, (chFL l d k).1 == 0)
  | [], d, k => rfl
  | t :: r, d, k => by
    show (if (fvis stF t d (0, k)).2 then fvisL stF r d (fvis stF t d (0, k)).1 else ((fvis stF t d (0, k)).1, false)) = ((if (chF t d k).1 = 0 then chFL r d (chF t d k).2 else chF t d k), (if (chF t d k).1 = 0 then chFL r d (chF t d k).2 else chF t d k).1 == 0)
    rw [fvis_chk t d 0 k]
    obtain ⟨e, n⟩ := chF t d k
    by_cases h : e = 0
    · subst h
      exact fvisL_chk r d n
    · have h2 : (e == 0) = false := by simp [h]
      simp only [h2, h, if_false]
      simp
end
set_option maxHeartbeats 4000000 in
theorem pr_fCheck1 (bn bf B : Nat) (S : Nat → Prop) (s : Int × Int) (w : World) (t : Fx) (E A : Option Addr) (dd c : Nat) (d : Int) (hI : InC bn bf S s w) (hS : ∀ b, b < B → ¬ S b) (hB : B ≤ w.heap.size) (hR : Fm B w t E A) (hs : t.sz ≤ 100000000) :
    Calls Try.prog 31 #[fV t E dd A c, .int .i64 d, .pointer (some ⟨bn, 0, none⟩), .pointer (some ⟨bf, 0, none⟩)] w (VisP (InC bn bf) S w (stF s t d)) := by
  obtain ⟨h1, h2, h3, h4, h5⟩ := hI
  obtain ⟨s1, s2⟩ := s
  obtain ⟨k', hk'⟩ : ∃ k', wrap64 (s2 + 1) = k' := ⟨_, rfl⟩
  obtain ⟨R, hR2⟩ : ∃ R, stF (s1, s2) t d = R := ⟨_, rfl⟩
  have HR : Hid (R = ((flF t d k', k'), flF t d k' == 0)) := Lib.hid (by rw [← hR2]; unfold stF; rw [hk'])
  rw [hR2]
  clear hR2
  have e0 : w.cell? ⟨bn, 0, none⟩ = some (.int .i64 s2) := h4.cell 0
  have f0 := h4.frozen 0
  have f1 := h5.frozen 0
  have hl4 := h4.lt
  have hl5 := h5.lt
  have hF1 : Frm S w ((w.setCell ⟨bn, 0, none⟩ (.int .i64 k')).alloc (.cells (fC t E dd A c) 27)) := ((Frm.refl S w).set h1 _ _).alloc _
  have HW : Hid (Blk ((w.setCell ⟨bn, 0, none⟩ (.int .i64 k')).alloc (.cells (fC t E dd A c) 27)) bn 3 #[.int .i64 k'] ∧ Blk ((w.setCell ⟨bn, 0, none⟩ (.int .i64 k')).alloc (.cells (fC t E dd A c) 27)) bf 30 #[.int .i64 s1] ∧ Frm S w ((w.setCell ⟨bn, 0, none⟩ (.int .i64 k')).alloc (.cells (fC t E dd A c) 27))) := Lib.hid
    ⟨(h4.set_ 0 _).alloc _, (h5.set_other h3 _ _).alloc _, hF1⟩
  have HF : Hid (Calls Try.prog 32 #[fV t E dd A c, .int .i64 d, .int .i64 k'] ((w.setCell ⟨bn, 0, none⟩ (.int .i64 k')).alloc (.cells (fC t E dd A c) 27)) fun e w' => e = .returned (.int .i64 (flF t d k')) ∧ Below ((w.setCell ⟨bn, 0, none⟩ (.int .i64 k')).alloc (.cells (fC t E dd A c) 27)).heap.size ((w.setCell ⟨bn, 0, none⟩ (.int .i64 k')).alloc (.cells (fC t E dd A c) 27)) w') := Lib.hid
    (pr_flF t E A dd c d k' _ hs ((hR.under (hF1.below2 hS hB)).more (Nat.le_trans hB hF1.size)))
  have HG := Lib.hid (fal t E A dd c (w.setCell ⟨bn, 0, none⟩ (.int .i64 k')))
  have g0 : (w.setCell ⟨bn, 0, none⟩ (.int .i64 k')).heap.size = w.heap.size := World.size_setCell _ _ _
  rw [g0] at HG
  obtain ⟨c0, c1, c2, c3, c4, c5⟩ := HG.out
  generalize flF t d k' = f at *
  clear h4 h5 hF1 hR hs g0
  go_enter Try.func31, Try.ntmps31
  go_wp2_with (go_at_call 32; (with_reducible refine HF.out.mono ?_); rintro e w1 ⟨rfl, hb1⟩; have g4 := HW.out.1.below hb1 HW.out.1.lt; have g5 := HW.out.2.1.below hb1 HW.out.2.1.lt; have q5 : w1.frozen? ⟨bf, 0, none⟩ = false := g5.frozen 0; have q6 : w1.cell? ⟨bf, 0, none⟩ = some (.int .i64 s1) := g5.cell 0; have q7 := g5.lt; have G4 := Lib.hid g4; have G5 := Lib.hid g5; have GF := Lib.hid (HW.out.2.2.trans (Frm.of_below hb1)); clear g4 g5 hb1)
  go_ret
  rw [HR.out]
  exact ⟨rfl, ⟨h1, h2, h3, G4.out.set_other (fun e => h3 e.symm) _ _, G5.out.set_ 0 _⟩, GF.out.set h2 _ _⟩
set_option maxHeartbeats 2000000 in
theorem pr_fCheck (t : Fx) (E A : Option Addr) (dd c : Nat) (w : World) (hs : t.sz ≤ 100000000) (hR : Fm w.heap.size w t E A) : Calls Try.prog 9 #[fV t E dd A c] w fun e w' => e = .returned (.int .i64 (chkF t)) ∧ Below w.heap.size w w' := by
  have HV : Hid (∀ (bn bf : Nat) W, InC bn bf (fun b => w.heap.size ≤ b) (0, 0) W → w.heap.size ≤ W.heap.size → Fm w.heap.size W t E A → Calls Try.prog 30 #[fV t E dd A c, .int .i64 1, .func (.func 31) #[] #[.pointer (some ⟨bn, 0, none⟩), .pointer (some ⟨bf, 0, none⟩)]] W (VisP (InC bn bf) (fun b => w.heap.size ≤ b) W (fvis stF t 1 (0, 0)))) := Lib.hid (fun bn bf W hI hW hR => by
    refine pr_fvisit 31 _ (InC bn bf) stF w.heap.size (.pointer (some ⟨bn, 0, none⟩)) (.pointer (some ⟨bf, 0, none⟩)) (fun _ => 0) 100000000 (fun _ _ _ => by omega) (.inl ⟨rfl, rfl⟩) (InC.kept bn bf) ?_ t.sz t (Nat.le_refl _) hs E dd A c 1 _ _ W hI (fun b hb h => by omega) (fun b hb => by omega) hW hR (by omega) (by omega) (by omega)
    intro S s w t E eC A c d hI hS _ hB hR _ _ hs _
    exact pr_fCheck1 bn bf _ S s w t E A eC c d hI hS hB hR hs)
  have HR := Lib.hid hR
  clear hR
  have HB : Hid (∀ o1 o2 o3, Below w.heap.size w (((w.alloc o1).alloc o2).alloc o3)) := Lib.hid (fun o1 o2 o3 => al (al (al (Below.refl _ _) _) _) _)
  go_enter Try.func9, Try.ntmps9
  have HBX : Hid (∀ o1, InC (w.heap.size + 1 + 1) (w.heap.size + 1) (fun b => w.heap.size ≤ b) (0, 0) (((w.alloc o1).alloc (.cells #[.int .i64 0] 30)).alloc (.cells #[.int .i64 0] 3))) := Lib.hid (fun o1 => by
    have z1 : (w.alloc o1).heap.size = w.heap.size + 1 := by simp
    have z2 : ((w.alloc o1).alloc (.cells #[.int .i64 0] 30)).heap.size = w.heap.size + 1 + 1 := by simp
    have b1 := Blk.new (w.alloc o1) 30 #[.int .i64 0]
    have b2 := Blk.new ((w.alloc o1).alloc (.cells #[.int .i64 0] 30)) 3 #[.int .i64 0]
    rw [z1] at b1
    rw [z2] at b2
    exact ⟨by omega, by omega, by omega, b2, b1.alloc _⟩)
  go_wp2_with (go_at_call 30; (with_reducible refine (HV.out _ _ _ (HBX.out _) (by simp; omega) (HR.out.under (HB.out _ _ _))).mono ?_); rintro e w1 ⟨rfl, hI, hf⟩; have q0 : w1.cell? ⟨w.heap.size + 1, 0, none⟩ = some (.int .i64 (fvis stF t 1 (0, 0)).1.1) := hI.2.2.2.2.cell 0; have HF := Lib.hid hf; clear hI hf)
  go_ret
  refine ⟨by rw [fvis_chk]; rfl, (HB.out _ _ _).trans (HF.out.below2 (fun k hk h => by omega) (by simp; omega))⟩
end Go.Proofs.Ytnjkphopklbogaa
namespace Go.Proofs.Ytnjkphopklbogaa
open Go.RowKit

theorem owns_slice {w : World} {base size n : Nat} {e : TypeId} {v : Value} {xs : List Value} (h : w.ownsRow base e size v n xs) : ∃ A c, v = .slice A n c := by
  rcases h.2 with ⟨rfl, h0⟩ | ⟨g, cap, cur, rfl, _⟩
  · have h1 := h.1
    by_cases hn : n = 0
    · exact ⟨none, 0, by rw [hn]⟩
    · first
        | exact ⟨none, 0, by simp_all⟩
        | (exfalso; omega)
  · exact ⟨_, _, rfl⟩
theorem own_lt {w : World} {B e size n : Nat} {v : Value} {xs : List Value} (h : w.ownsRow B e size v n xs) {k : Nat} (hk : v.ownBlock = some k) : B ≤ k ∧ k < w.heap.size := World.ownsRow.lt h k hk
/-- Own rows outlive what leaves their block. -/
theorem own_eqb {w w' : World} {B e size n : Nat} {v : Value} {xs : List Value} (h : w.ownsRow B e size v n xs) (hb : ∀ k, v.ownBlock = some k → w'.heap[k]? = w.heap[k]?) : w'.ownsRow B e size v n xs := by
  obtain ⟨h1, h2⟩ := h
  refine ⟨h1, ?_⟩
  rcases h2 with h2 | ⟨g, cap, cur, hv, hg, hh, rest⟩
  · exact .inl h2
  · exact .inr ⟨g, cap, cur, hv, hg, (hb g (by rw [hv]; rfl)).trans hh, rest⟩
theorem own_keepG {w w' : World} {B e size n : Nat} {v : Value} {xs : List Value} (h : w.ownsRow B e size v n xs) (hb : Below w.heap.size w w') : w'.ownsRow B e size v n xs := own_eqb h (fun k hk => hb.block k (own_lt h hk).2)
theorem own_more {w : World} {B B' e size n : Nat} {v : Value} {xs : List Value} (h : w.ownsRow B e size v n xs) (hb : ∀ k, v.ownBlock = some k → B' ≤ k) : w.ownsRow B' e size v n xs := by
  obtain ⟨h1, h2⟩ := h
  refine ⟨h1, ?_⟩
  rcases h2 with h2 | ⟨g, cap, cur, hv, hg, hh, rest⟩
  · exact .inl h2
  · exact .inr ⟨g, cap, cur, hv, hb g (by rw [hv]; rfl), hh, rest⟩
/-- The state: the slice lies in block bp, the function in block bq; the row is the call's own. -/
structure InL (sty ety size fty : Nat) (fv : Value) (bp bq : Nat) (S : Nat → Prop) (xs : List Value) (n : Nat) (w : World) : Prop where
  h1 : S bp
  h2 : S bq
  h3 : bp ≠ bq
  hv : ∃ v, Blk w bp sty #[v] ∧ Blk w bq fty #[fv] ∧ w.ownsRow 0 ety size v n xs ∧ ∀ k, v.ownBlock = some k → S k ∧ k ≠ bp ∧ k ≠ bq
section
variable {sty ety size fty : Nat} {fv : Value} {bp bq : Nat}
theorem InL.kept {σ : Type} (f : σ → List Value) (g : σ → Nat) : KeptI (fun S (s : σ) w => InL sty ety size fty fv bp bq S (f s) (g s) w) where
  step := fun S s w w' h hb => by
    obtain ⟨v, p1, p2, p3, p4⟩ := h.hv
    exact ⟨h.h1, h.h2, h.h3, v, p1.below hb p1.lt, p2.below hb p2.lt, own_keepG p3 hb, p4⟩
  narrow := fun S s w hh h hw => by
    obtain ⟨v, p1, p2, p3, p4⟩ := h.hv
    have l1 := p1.lt
    have l2 := p2.lt
    exact ⟨⟨h.h1, by omega⟩, ⟨h.h2, by omega⟩, h.h3, v, p1, p2, p3, fun k hk => ⟨⟨(p4 k hk).1, by have := (own_lt p3 hk).2; omega⟩, (p4 k hk).2⟩⟩
  widen := fun S S' s w h hs => by
    obtain ⟨v, p1, p2, p3, p4⟩ := h.hv
    exact ⟨hs _ h.h1, hs _ h.h2, h.h3, v, p1, p2, p3, fun k hk => ⟨hs _ (p4 k hk).1, (p4 k hk).2⟩⟩
/-- An append to the row, and the store of what it returned. -/
theorem InL.push {S : Nat → Prop} {w W w1 : World} {v v2 : Value} {n m : Nat} {xs ys : List Value} (hF : ∀ b, w.heap.size ≤ b → S b) (h1 : S bp) (h2 : S bq) (h3 : bp ≠ bq) (p1 : Blk w bp sty #[v]) (p2 : Blk w bq fty #[fv]) (_p3 : w.ownsRow 0 ety size v n xs) (p4 : ∀ k, v.ownBlock = some k → S k ∧ k ≠ bp ∧ k ≠ bq)
    (hW : Below w.heap.size w W) (hg : W.grownBy w1 v.ownBlock) (ho : w1.ownsRow 0 ety size v2 m ys) (hat : ∀ k, v2.ownBlock = some k → v.ownBlock = some k ∨ k = W.heap.size) :
    Blk w1 bp sty #[v] ∧ InL sty ety size fty fv bp bq S ys m (w1.setCell ⟨bp, 0, none⟩ v2) ∧ Frm S w (w1.setCell ⟨bp, 0, none⟩ v2) := by
  have l1 := p1.lt
  have l2 := p2.lt
  have hs := hW.size
  have b1 : Blk w1 bp sty #[v] := (hg.block bp (by omega) (fun e => (p4 bp e.symm).2.1 rfl)).trans (p1.below hW l1)
  have b2 : Blk w1 bq fty #[fv] := (hg.block bq (by omega) (fun e => (p4 bq e.symm).2.2 rfl)).trans (p2.below hW l2)
  have q4 : ∀ k, v2.ownBlock = some k → S k ∧ k ≠ bp ∧ k ≠ bq := fun k hk => by
    rcases hat k hk with h | h
    · exact p4 k h
    · exact ⟨hF k (by omega), by omega, by omega⟩
  have hfr : Frm S w w1 := by
    refine (Frm.of_below hW).trans ⟨hg.os, hg.tape, hg.output, hg.size, fun k hk hn => hg.block k hk (fun e => hn (p4 k e.symm).1)⟩
  refine ⟨b1, ⟨h1, h2, h3, v2, b1.set_ 0 _, b2.set_other h3 _ _, own_eqb ho (fun k hk => ?_), q4⟩, hfr.set h1 _ _⟩
  have hne := (q4 k hk).2.1
  have hne2 : ¬ bp = k := fun e => hne e.symm
  simp only [World.setCell, Array.getElem?_modify, hne2, if_false]
end
/-- append of a row to a row of the call's own, in a drawn region. -/
theorem step_app_row {ops : Array Oper} {o : Oper} {a : Act} {w : World} {K : Act → World → Prop} {Q : Exit → Act → World → Prop} {Ex' : Prop} {sty ety size bytes : Nat} {z : Value}
    (hu : Try.prog.underlying sty = some (.slice ety)) (hi : (Try.prog.info? ety).map (fun i => (i.zero, i.size, i.bytes)) = some (some z, size, bytes)) (hzs : z.cells.size = size) (hsz : 0 < size) (hby : bytes ≤ 100) (hgd : o.guard = none) (s x : Operand)
    (ho : o.op = .call { callee := .builtin .append, args := #[s, x], argTypes := #[sty, sty] })
    (B n : Nat) (v : Value) (xs : List Value) (hs : a.eval s = v) (hown : w.ownsRow B ety size v n xs) (ad : Addr) (m cc : Nat) (news : List Value) (hx : a.eval x = .slice (some ad) m cc) (hl : news.length = m * size) (hc : ∀ j u, news[j]? = some u → w.cell? (ad.add j) = some u) (h1 : ∀ u ∈ news, u.oneCell' = true)
    (hB : B ≤ w.heap.size) (hlen : n + m ≤ 1000000000) (hK : ∀ A' c' w', w'.ownsRow B ety size (.slice A' (n + m) c') (n + m) (xs ++ news) → w.grownBy w' v.ownBlock → (∀ k, (Value.slice A' (n + m) c').ownBlock = some k → v.ownBlock = some k ∨ k = w.heap.size) → K (a.put o.dst (.slice A' (n + m) c')) w') :
    if Region.wanted o (yielded ops a.tmps) = true then Oper.wp Try.prog o a w K Q else Ex' := by
  obtain ⟨i0, hi0, hz0, hz1, hz2⟩ := info_parts hi
  have hw : Region.wanted o (yielded ops a.tmps) = true := by simp [Region.wanted, hgd]
  rw [if_pos hw]
  obtain ⟨v', w', hr, h2, h3, h4, h5⟩ := run_append_own_at (P := Try.prog) w B sty o.type ety i0 z size bytes hu hi0 hz0 hz1 hz2 hzs hsz v n xs hown ad m cc news hl hc h1 (by unfold maxLen; omega) (by have : (n + m) * bytes ≤ (n + m) * 100 := Nat.mul_le_mul_left _ hby; omega) hB
  obtain ⟨A', c', rfl⟩ := owns_slice h2
  unfold Oper.wp
  simp [execOp, ho, resolve, invoke, builtin, hs, hx, hr, Result.andThen]
  refine hK A' c' w' h2 h3 (fun k hk => ?_)
  rcases h5 with h5 | h5
  · exact .inl (by rw [← h5]; exact hk)
  · rw [hk] at h5
    exact .inr (Option.some.inj h5)
theorem info3F : (Try.prog.info? 3).map (fun i => (i.zero, i.size, i.bytes)) = some (some (.int .i64 0), 1, 8) := by kernel_rfl
/-! ### the depths of the nodes -/
def PkI (w : World) (x : Int) (e : Ending) (w' : World) : Prop := ∃ g, e = .returned (.slice (some ⟨g, 0, none⟩) 1 1) ∧ w'.cell? ⟨g, 0, none⟩ = some (.int .i64 x) ∧ g < w'.heap.size ∧ Below w.heap.size w w'
theorem pr_depths1 (t : Fx) (E A : Option Addr) (dd c : Nat) (d : Int) (w : World) : Calls Try.prog 68 #[fV t E dd A c, .int .i64 d] w (PkI w d) := by
  have HB : Hid (Blk ((w.alloc (.cells (fC t E dd A c) 27)).alloc (.cells #[.int .i64 d] 3)) (w.heap.size + 1) 3 #[.int .i64 d]) := Lib.hid (by
    have h := Blk.new (w.alloc (.cells (fC t E dd A c) 27)) 3 #[.int .i64 d]
    have e : (w.alloc (.cells (fC t E dd A c) 27)).heap.size = w.heap.size + 1 := by simp
    rw [e] at h
    exact h)
  have HAL : Hid (∀ o1 o2, Below w.heap.size w ((w.alloc o1).alloc o2)) := Lib.hid (fun o1 o2 => bt (bal _ _) (bal _ _))
  go_enter Try.func68, Try.ntmps68
  go_wp2
  go_ret
  exact ⟨w.heap.size + 1, rfl, HB.out.cell 0, HB.out.lt, HAL.out _ _⟩
abbrev InI (bp bq : Nat) : Inv (List Int) := fun S s w => InL 58 3 1 78 (.func (.func 68) #[] #[]) bp bq S (s.map (Value.int .i64)) s.length w
def stI (s : List Int) (_ : Fx) (d : Int) : List Int × Bool := (s ++ [d], true)
set_option maxRecDepth 100000 in
set_option maxHeartbeats 8000000 in
theorem pr_colI (bp bq : Nat) (S : Nat → Prop) (s : List Int) (w : World) (t : Fx) (E A : Option Addr) (dd c : Nat) (d : Int) (hI : InI bp bq S s w) (hF : ∀ b, w.heap.size ≤ b → S b) (hl : s.length ≤ 100000000) :
    Calls Try.prog 95 #[fV t E dd A c, .int .i64 d, .pointer (some ⟨bp, 0, none⟩), .pointer (some ⟨bq, 0, none⟩)] w (VisP (InI bp bq) S w (stI s t d)) := by
  obtain ⟨h1, h2, h3, v, p1, p2, p3, p4⟩ := hI
  obtain ⟨R, hR⟩ : ∃ R, stI s t d = R := ⟨_, rfl⟩
  have HR : Hid (R = (s ++ [d], true)) := Lib.hid hR.symm
  rw [hR]
  clear hR
  obtain ⟨Av, cv, rfl⟩ := owns_slice p3
  obtain ⟨W0, hW0⟩ : ∃ W0, w.alloc (.cells (fC t E dd A c) 27) = W0 := ⟨_, rfl⟩
  have hb0 : Below w.heap.size w W0 := by rw [← hW0]; exact bal _ _
  have hat0 := fal t E A dd c w
  rw [hW0] at hat0
  have HPK : Hid (∀ wx, Below W0.heap.size W0 wx → Calls Try.prog 68 #[fV t E dd A c, .int .i64 d] wx fun e w' => PkI wx d e w' ∧ Below W0.heap.size W0 w') := Lib.hid (fun wx hb => (pr_depths1 t E A dd c d wx).mono (fun e w' h => ⟨h, by obtain ⟨g, _, _, _, h4⟩ := h; exact bt hb h4⟩))
  have e0 : W0.cell? ⟨bp, 0, none⟩ = some (.slice Av s.length cv) := (p1.below hb0 p1.lt).cell 0
  have e1 : W0.cell? ⟨bq, 0, none⟩ = some (.func (.func 68) #[] #[]) := (p2.below hb0 p2.lt).cell 0
  have hbp : bp < W0.heap.size := Nat.lt_of_lt_of_le p1.lt hb0.size
  have hbq : bq < W0.heap.size := Nat.lt_of_lt_of_le p2.lt hb0.size
  have HP : Hid (∀ w5 w8 A8 c8, Below W0.heap.size W0 w5 → w5.grownBy w8 (Value.slice Av s.length cv).ownBlock → w8.ownsRow 0 3 1 (.slice A8 (s.length + 1) c8) (s.length + 1) (s.map (Value.int .i64) ++ [Value.int .i64 d]) → (∀ k, (Value.slice A8 (s.length + 1) c8).ownBlock = some k → (Value.slice Av s.length cv).ownBlock = some k ∨ k = w5.heap.size) →
      Blk w8 bp 58 #[.slice Av s.length cv] ∧ InI bp bq S (s ++ [d]) (w8.setCell ⟨bp, 0, none⟩ (.slice A8 (s.length + 1) c8)) ∧ Frm S w (w8.setCell ⟨bp, 0, none⟩ (.slice A8 (s.length + 1) c8))) := Lib.hid (fun w5 w8 A8 c8 hb hg ho hat => by
    have h := InL.push hF h1 h2 h3 p1 p2 p3 p4 (hb0.trans (hb.mono hb0.size)) hg ho hat
    refine ⟨h.1, ?_, h.2.2⟩
    have h2 := h.2.1
    show InL 58 3 1 78 _ bp bq S ((s ++ [d]).map (Value.int .i64)) (s ++ [d]).length _
    rw [List.map_append, List.length_append]
    exact h2)
  have HO : Hid (∀ w5, Below W0.heap.size W0 w5 → w5.ownsRow 0 3 1 (.slice Av s.length cv) s.length (s.map (Value.int .i64))) := Lib.hid (fun w5 hb => own_keepG p3 (hb0.trans (hb.mono hb0.size)))
  have HW0 := Lib.hid hW0
  clear p1 p2 p3 p4 hb0 hW0 h1 h2 h3 hF
  go_enter Try.func95, Try.ntmps95
  go_upto_region 1 with (fail)
  rw [HW0.out]
  obtain ⟨c0, c1, c2, c3, c4, c5⟩ := hat0
  obtain ⟨h0, hh0⟩ : ∃ h0, w.heap.size = h0 := ⟨_, rfl⟩
  have hlt0 : h0 < W0.heap.size := by rw [← hh0, ← HW0.out]; simp
  rw [hh0] at c0 c1 c2 c3 c4 c5 ⊢
  go_region_law (first
    | (refine step_app_row Try.underlying58 info3F rfl (by decide) (by decide) (by rfl) (.tmp 7) (.tmp 11) (by rfl) 0 s.length (.slice Av s.length cv) (s.map (Value.int .i64)) (by rfl) (HO.out _ HQ5.out) ⟨g5, 0, none⟩ 1 1 [Value.int .i64 d] (by rfl) (by rfl) HC5.out (by simp [Value.oneCell']) (Nat.zero_le _) (by omega) ?_; intro A8 c8 w8 hO8 hg8 ha8; obtain ⟨k8, i8, f8⟩ := HP.out _ _ _ _ HQ5.out hg8 hO8 ha8; have q0 : w8.cell? ⟨bp, 0, none⟩ = some (.slice Av s.length cv) := k8.cell 0; have q1 := k8.lt; have q2 := k8.frozen 0; have I8 := Lib.hid i8; have F8 := Lib.hid f8; clear hO8 hg8 ha8 k8 i8 f8)
    | (go_simp; go_at_call 68; (with_reducible refine (HPK.out _ (by first | exact (Below.refl _ _).drew | exact Below.refl _ _)).mono ?_); rintro e w5 ⟨⟨g5, rfl, hc5, hl5, _⟩, hb5⟩; have d0 : w5.cell? ⟨bp, 0, none⟩ = some (.slice Av s.length cv) := (hb5.cell (p := ⟨bp, 0, none⟩) hbp).trans e0; have HC5 : Hid (∀ j u, [Value.int .i64 d][j]? = some u → w5.cell? ((⟨g5, 0, none⟩ : Addr).add j) = some u) := Lib.hid (fun j u hj => by match j, hj with | 0, hj => (simp at hj; subst hj; simpa [Addr.add] using hc5)); have HQ5 := Lib.hid hb5; clear hb5 hc5))
  all_goals
    go_wp2
    go_ret
    rw [HR.out]
    exact ⟨rfl, I8.out, F8.out⟩
end Go.Proofs.Ytnjkphopklbogaa
namespace Go.Proofs.Ytnjkphopklbogaa
open Go.RowKit

theorem bs_list (l : Bs) : (bs l).toList = l := by rw [ByteArray.toList_eq]; rfl
theorem key_list (m : ByteArray) : m.toList = key m := ByteArray.toList_eq m
theorem tx_mem {l : List Bs} {x : Bs} : x ∈ l ↔ ∃ k, k < l.length ∧ tx l k = x := by
  rw [List.mem_iff_getElem]
  constructor
  · rintro ⟨k, hk, e⟩
    exact ⟨k, hk, by unfold tx; simp [List.getD, List.getElem?_eq_getElem hk, e]⟩
  · rintro ⟨k, hk, e⟩
    refine ⟨k, hk, ?_⟩
    unfold tx at e
    simpa [List.getD, List.getElem?_eq_getElem hk] using e
theorem tx_drop {l : List Bs} {k : Nat} (h : k < l.length) : l.drop k = tx l k :: l.drop (k + 1) := by
  unfold tx
  rw [List.drop_eq_getElem_cons h]
  simp [List.getD, List.getElem?_eq_getElem h]
theorem cmp_eq (x : Bs) (m : ByteArray) : ((bs x).toList == m.toList) = decide (x = key m) := by
  rw [bs_list, key_list]
  by_cases h : x = key m
  · rw [h]; simp
  · rw [decide_eq_false h]; exact beq_eq_false_iff_ne.2 h
set_option maxHeartbeats 2000000 in
theorem rf_In (l : List Bs) (A : Option Addr) (c : Nat) (m : ByteArray) (w : World) (hT : RT w w.heap.size A l) (hl : l.length ≤ 1000000000) :
    Calls Try.prog 114 #[.slice A l.length c, .string m] w fun e w' => e = .returned (.bool (decide (key m ∈ l))) ∧ w = w' := by
  have HT := Lib.hid hT
  obtain ⟨R, hR⟩ : ∃ R, decide (key m ∈ l) = R := ⟨_, rfl⟩
  have HR := Lib.hid hR
  rw [hR]
  clear hR hT
  go_enter Try.func114, Try.ntmps114
  go_wp2
  go_loopw [5] (fun i wr => ∃ k : Nat, k ≤ l.length ∧ i = .int .i64 (k : Int) ∧ Hid (∀ j, j < k → ((bs (tx l j)).toList == m.toList) = false) ∧ w = wr) (fun i _ => l.length - (intOf i).toNat)
  case atStart => exact ⟨0, Nat.zero_le _, rfl, Lib.hid (fun j hj => by omega), rfl⟩
  case round =>
    obtain ⟨k, hk, rfl, HK, rfl⟩ := hrel
    by_cases hlt : k < l.length
    · have l1 : (k : Int) < (l.length : Int) := by omega
      obtain ⟨b, f0, rfl, hbl, hc⟩ := HT.out (by omega)
      have d0 := hc k hlt
      clear hc
      obtain ⟨q, hq⟩ : ∃ q, ((bs (tx l k)).toList == m.toList) = q := ⟨_, rfl⟩
      have HQ := Lib.hid hq
      generalize tx l k = v at d0 hq
      cases q
      · have HK2 : Hid (∀ j, j < k + 1 → ((bs (tx l j)).toList == m.toList) = false) := Lib.hid (fun j hj => by
          rcases (by omega : j < k ∨ j = k) with h | rfl
          · exact HK.out j h
          · exact HQ.out)
        go_wp2
        go_roundw
        case rel => exact ⟨k + 1, by omega, by go_num, HK2, by first | rfl | trivial⟩
        case measure => simp [intOf]; try omega
      · have X : Hid (R = true) := Lib.hid (by rw [← HR.out]; have h := HQ.out; rw [cmp_eq] at h; exact decide_eq_true (tx_mem.2 ⟨k, hlt, of_decide_eq_true h⟩))
        obtain rfl := X.out
        go_wp2
        go_ret
        exact ⟨rfl, by first | rfl | trivial⟩
    · have l1 : ¬ (k : Int) < (l.length : Int) := by omega
      obtain rfl : k = l.length := by omega
      have X : Hid (R = false) := Lib.hid (by
        rw [← HR.out]
        refine decide_eq_false (fun h => ?_)
        obtain ⟨j, hj, e⟩ := tx_mem.1 h
        have := HK.out j hj
        rw [cmp_eq] at this
        exact of_decide_eq_false this e)
      obtain rfl := X.out
      go_wp2
      go_ret
      exact ⟨rfl, by first | rfl | trivial⟩
set_option maxHeartbeats 2000000 in
/-- Two rows of the same texts are equal. -/
theorem rf_Texts (l : List Bs) (A B : Option Addr) (c d : Nat) (w : World) (hT : RT w w.heap.size A l) (hU : RT w w.heap.size B l) (hl : l.length ≤ 1000000000) :
    Calls Try.prog 11 #[.slice A l.length c, .slice B l.length d] w fun e w' => e = .returned (.bool true) ∧ Below w.heap.size w w' := by
  have HT := Lib.hid hT
  have HU := Lib.hid hU
  have g1 : ((l.length : Int) != (l.length : Int)) = false := by simp
  clear hT hU
  go_enter Try.func11, Try.ntmps11
  go_wp2
  go_loopw [5] (fun i wr => ∃ k : Nat, k ≤ l.length ∧ i = .int .i64 (k : Int) ∧ Hid (Below w.heap.size w wr)) (fun i _ => l.length - (intOf i).toNat)
  case atStart => exact ⟨0, Nat.zero_le _, rfl, Lib.hid (Below.refl _ _)⟩
  case round =>
    obtain ⟨k, hk, rfl, HB⟩ := hrel
    by_cases hlt : k < l.length
    · have l1 : (k : Int) < (l.length : Int) := by omega
      have l0 : (0 : Int) ≤ (k : Int) := by omega
      obtain ⟨b, f0, rfl, hbl, hc⟩ := HT.out (by omega)
      obtain ⟨b2, f2, rfl, hbl2, hc2⟩ := HU.out (by omega)
      have d0 := (HB.out.cell (p := ⟨b, f0 + k, none⟩) hbl).trans (hc k hlt)
      have d1 := (HB.out.cell (p := ⟨b2, f2 + k, none⟩) hbl2).trans (hc2 k hlt)
      clear hc hc2
      generalize tx l k = v at d0 d1
      have g2 : ((bs v).toList == (bs v).toList) = true := by simp
      have g3 : ((bs v).toList != (bs v).toList) = false := by simp
      go_wp2
      go_big_quiet (fail)
      go_wp2
      go_roundw
      case rel => exact ⟨k + 1, by omega, by go_num, Lib.hid (by first | exact below_drewN HB.out _ | exact HB.out)⟩
      case measure => simp [intOf]; try omega
    · have l1 : ¬ (k : Int) < (l.length : Int) := by omega
      obtain rfl : k = l.length := by omega
      go_wp2
      go_ret
      exact ⟨rfl, HB.out⟩
/-- append of one text, in a plain region. -/
theorem wpList_app_txt {ops : Array Oper} {rest : List Oper} {o : Oper} {a : Act} {Q : Exit → Act → World → Prop} (hgd : o.guard = none) (s x : Operand)
    (ho : o.op = .call { callee := .builtin .append, args := #[s, x], argTypes := #[34, 34] }) (W : World) (B n : Nat) (v : Value) (l : List Bs) (hln : l.length = n) (hs : a.eval s = v) (hrow : OwnX W B v l) (ad : Addr) (y : Bs)
    (hx : a.eval x = .slice (some ad) 1 1) (hc : ∀ j u, [encT y][j]? = some u → W.cell? (ad.add j) = some u) (hB : B ≤ W.heap.size) (hn : n ≤ 1000000000)
    (h : ∀ A' c' w', OwnX w' B (.slice A' (n + 1) c') (l ++ [y]) → Below B W w' → wpList Try.prog ops Q rest (a.put o.dst (.slice A' (n + 1) c')) w') : wpList Try.prog ops Q (o :: rest) a W := by
  subst hln
  obtain ⟨i0, hi0, hz0, hz1, hz2⟩ := info_parts info9
  refine wpList_append_own_at _ hgd s x 34 ho B 9 i0 _ 1 16 Try.underlying34 hi0 hz0 hz1 hz2 rfl (by decide) v l.length (l.map encT) hs hrow ad 1 1 [encT y] hx rfl hc (by simp [Value.oneCell']) (by unfold maxLen; omega) (by omega) hB ?_
  intro v' w' hO hg _ _
  have ho2 : OwnX w' B v' (l ++ [y]) := OwnX.push hO
  obtain ⟨A', c', e, _⟩ := ho2.form
  rw [List.length_append] at e
  have e2 : v' = .slice A' (l.length + 1) c' := e
  subst e2
  exact h A' c' w' ho2 ((Below.refl _ _).grown hg hB (fun k e => (World.ownsRow.lt hrow k e).1))
def TxP (l : List Bs) (w : World) (e : Ending) (w' : World) : Prop := ∃ A c, e = .returned (.slice A l.length c) ∧ RT w' w'.heap.size A l ∧ Below w.heap.size w w'
end Go.Proofs.Ytnjkphopklbogaa
namespace Go.Proofs.Ytnjkphopklbogaa
open Go.RowKit

theorem less_eq (m : ByteArray) (x : Bs) : Op.bytesLess (bs x).toList m.toList = decide (x < key m) := by rw [bytesLess_eq, bs_list, key_list]
theorem less_cases (m : ByteArray) (x : Bs) : (Op.bytesLess (bs x).toList m.toList = true ∧ ¬ key m < x) ∨ (Op.bytesLess (bs x).toList m.toList = false ∧ ((bs x).toList == m.toList) = true ∧ ¬ key m < x) ∨ (Op.bytesLess (bs x).toList m.toList = false ∧ ((bs x).toList == m.toList) = false ∧ key m < x) := by
  rw [less_eq, cmp_eq]
  by_cases h : x < key m
  · exact .inl ⟨decide_eq_true h, fun h2 => List.lt_irrefl _ (List.lt_trans h h2)⟩
  · by_cases e : x = key m
    · exact .inr (.inl ⟨decide_eq_false h, decide_eq_true e, fun h2 => by rw [e] at h2; exact List.lt_irrefl _ h2⟩)
    · refine .inr (.inr ⟨decide_eq_false h, decide_eq_false e, ?_⟩)
      rcases Decidable.em (key m < x) with g | g
      · exact g
      · exact absurd (List.le_antisymm (List.not_lt.1 g) (List.not_lt.1 h)) e
/-- What is still to come of an insertion. -/
def insR (x : Bs) (D : Bool) (o r : List Bs) : List Bs := if D then o ++ r else o ++ insK x r
theorem insR_start (x : Bs) (l : List Bs) : insR x false [] l = insK x l := by unfold insR; simp
theorem insR_done (x : Bs) (o r : List Bs) (y : Bs) : insR x true (o ++ [y]) r = insR x true o (y :: r) := by unfold insR; simp
theorem insR_put (x : Bs) (o r : List Bs) (y : Bs) (h : x < y) : insR x true (o ++ [x] ++ [y]) r = insR x false o (y :: r) := by
  unfold insR insK
  rw [if_pos h]; simp
theorem insR_not (x : Bs) (o r : List Bs) (y : Bs) (h : ¬ x < y) : insR x false (o ++ [y]) r = insR x false o (y :: r) := by
  unfold insR
  conv => rhs; unfold insK
  simp [h]
theorem insR_end (x : Bs) (o : List Bs) : insR x false o [] = o ++ [x] := by unfold insR insK; simp
theorem insR_end2 (x : Bs) (o : List Bs) : insR x true o [] = o := by unfold insR; simp
theorem OwnX.below {w w' : World} {B : Nat} {v : Value} {l : List Bs} (h : OwnX w B v l) (hb : Below w.heap.size w w') : OwnX w' B v l := h.keep hb
theorem OwnX.made (w : World) (B : Nat) (hB : B ≤ w.heap.size) : OwnX (w.alloc (.cells #[] 9)) B (.slice (some ⟨w.heap.size, 0, none⟩) 0 0) [] := World.ownsRow_made w #[] 0 hB (Nat.zero_le _) rfl
set_option maxRecDepth 100000 in
set_option maxHeartbeats 4000000 in
theorem rf_With (l : List Bs) (A : Option Addr) (c : Nat) (m : ByteArray) (w : World) (hT : RT w w.heap.size A l) (hl : l.length ≤ 900000000) :
    Calls Try.prog 107 #[.slice A l.length c, .string m] w (TxP (withK l (key m)) w) := by
  have HT := Lib.hid hT
  have HIN := Lib.hid (rf_In l A c m w hT (by omega))
  have hal : ∀ ob, Below w.heap.size w (w.alloc ob) := fun ob => al (Below.refl _ _) ob
  obtain ⟨q, hq⟩ : ∃ q, decide (key m ∈ l) = q := ⟨_, rfl⟩
  rw [hq] at HIN
  cases q
  · have X : Hid (withK l (key m) = insK (key m) l) := Lib.hid (by unfold withK; rw [if_neg (of_decide_eq_false hq)])
    rw [X.out]
    obtain ⟨R, hR⟩ : ∃ R, insK (key m) l = R := ⟨_, rfl⟩
    have HS : Hid (insR (key m) false [] (l.drop 0) = R) := Lib.hid (by rw [← hR]; exact insR_start _ _)
    rw [hR]
    have HO0 : Hid (OwnX (w.alloc (.cells #[] 9)) w.heap.size (.slice (some ⟨w.heap.size, 0, none⟩) 0 0) [] ∧ Below w.heap.size w (w.alloc (.cells #[] 9))) := Lib.hid ⟨OwnX.made w w.heap.size (Nat.le_refl _), hal _⟩
    clear hq hT hR X hal
    go_enter Try.func107, Try.ntmps107
    go_wp2_with (go_at_call 114; (with_reducible refine HIN.out.mono ?_); rintro e w1 ⟨rfl, rfl⟩)
    go_loopw [5, 6, 7] (fun s5 s6 i wr => ∃ (k : Nat) (D : Bool) (o : List Bs) (A3 : Option Addr) (c3 : Nat), k ≤ l.length ∧ i = .int .i64 (k : Int) ∧ s6 = .bool D ∧ s5 = .slice A3 o.length c3 ∧ ((D = false → o.length ≤ k) ∧ o.length ≤ k + 1) ∧ Hid (OwnX wr w.heap.size (.slice A3 o.length c3) o) ∧ Hid (insR (key m) D o (l.drop k) = R) ∧ Hid (Below w.heap.size w wr)) (fun _ _ i _ => l.length - (intOf i).toNat)
    case atStart => exact ⟨0, false, [], some ⟨w.heap.size, 0, none⟩, 0, Nat.zero_le _, rfl, rfl, rfl, ⟨fun _ => by simp, by simp⟩, Lib.hid HO0.out.1, HS, Lib.hid HO0.out.2⟩
    case round =>
      obtain ⟨k, D, o, A3, c3, hk, rfl, rfl, rfl, hok, HO, HK, HB⟩ := hrel
      by_cases hlt : k < l.length
      · have l1 : (k : Int) < (l.length : Int) := by omega
        have l0 : (0 : Int) ≤ (k : Int) := by omega
        obtain ⟨b, f0, rfl, hbl, hc⟩ := HT.out (by omega)
        have d0 := (HB.out.cell (p := ⟨b, f0 + k, none⟩) hbl).trans (hc k hlt)
        have HHC : Hid (∀ wx, Below w.heap.size w wx → wx.cell? ⟨b, f0 + k, none⟩ = some (.string (bs (tx l k)))) := Lib.hid (fun wx hx => (hx.cell (p := ⟨b, f0 + k, none⟩) hbl).trans (hc k hlt))
        have hkk := HK.out
        rw [tx_drop hlt] at hkk
        clear hc
        have hp := less_cases m (tx l k)
        obtain ⟨hok0, hok⟩ := hok
        generalize tx l k = y at d0 hp hkk HHC
        have hz := HB.out.size
        cases D
        · have hok2 := hok0 rfl
          clear hok0
          rcases hp with ⟨p1, p2⟩ | ⟨p1, p2, p3⟩ | ⟨p1, p2, p3⟩
          · have HK2 : Hid (insR (key m) false (o ++ [y]) (l.drop (k + 1)) = R) := Lib.hid (by rw [insR_not _ _ _ _ p2]; exact hkk)
            clear hkk p2
            go_wp2_with (at_builtin; refine wpList_app_txt rfl _ _ rfl _ w.heap.size o.length _ o rfl rfl (HO.out.keep (al (Below.refl _ _) _)) ⟨wr.heap.size, 0, none⟩ y rfl (cell_one_new wr (.string (bs y)) 9) (by simp; omega) (by omega) ?_; intro A4 c4 w4 hO4 hb4; have HO4 := Lib.hid hO4; have HB4 := Lib.hid (HB.out.trans ((al (Below.refl _ _) _ : Below wr.heap.size wr (wr.alloc (.cells #[.string (bs y)] 9))).mono hz |>.trans hb4)); clear hO4 hb4)
            go_roundw
            case rel => exact ⟨k + 1, false, o ++ [y], A4, c4, by omega, by go_num, rfl, by simp, ⟨fun _ => by simp <;> omega, by simp; omega⟩, Lib.hid (by simpa using HO4.out), HK2, HB4⟩
            case measure => simp [intOf]; try omega
          · have HK2 : Hid (insR (key m) false (o ++ [y]) (l.drop (k + 1)) = R) := Lib.hid (by rw [insR_not _ _ _ _ p3]; exact hkk)
            clear hkk p3
            go_wp2_with (at_builtin; refine wpList_app_txt rfl _ _ rfl _ w.heap.size o.length _ o rfl rfl (HO.out.keep (al (Below.refl _ _) _)) ⟨wr.heap.size, 0, none⟩ y rfl (cell_one_new wr (.string (bs y)) 9) (by simp; omega) (by omega) ?_; intro A4 c4 w4 hO4 hb4; have HO4 := Lib.hid hO4; have HB4 := Lib.hid (HB.out.trans ((al (Below.refl _ _) _ : Below wr.heap.size wr (wr.alloc (.cells #[.string (bs y)] 9))).mono hz |>.trans hb4)); clear hO4 hb4)
            go_roundw
            case rel => exact ⟨k + 1, false, o ++ [y], A4, c4, by omega, by go_num, rfl, by simp, ⟨fun _ => by simp <;> omega, by simp; omega⟩, Lib.hid (by simpa using HO4.out), HK2, HB4⟩
            case measure => simp [intOf]; try omega
          · have HK2 : Hid (insR (key m) true (o ++ [key m] ++ [y]) (l.drop (k + 1)) = R) := Lib.hid (by rw [insR_put _ _ _ _ p3]; exact hkk)
            clear hkk p3
            go_wp2_with (at_builtin; first
              | (refine wpList_app_txt rfl _ _ rfl _ w.heap.size o.length _ o rfl rfl (HO.out.keep (al (Below.refl _ _) _)) ⟨wr.heap.size, 0, none⟩ (key m) rfl (cell_one_new wr (.string m) 9) (by simp; omega) (by omega) ?_; intro A5 c5 w5 hO5 hb5; have hb6 : Below w.heap.size w w5 := HB.out.trans ((al (Below.refl _ _) _ : Below wr.heap.size wr (wr.alloc (.cells #[.string m] 9))).mono hz |>.trans hb5); have d5 := HHC.out w5 hb6; have hz5 := hb6.size; have HO5 := Lib.hid hO5; have HB5 := Lib.hid hb6; clear hO5 hb5 hb6)
              | (refine wpList_app_txt rfl _ _ rfl _ w.heap.size (o.length + 1) _ (o ++ [key m]) (by simp) rfl (HO5.out.keep (al (Below.refl _ _) _)) ⟨w5.heap.size, 0, none⟩ y rfl (cell_one_new w5 (.string (bs y)) 9) (by simp; omega) (by omega) ?_; intro A4 c4 w4 hO4 hb4; have HO4 := Lib.hid hO4; have HB4 := Lib.hid (HB5.out.trans ((al (Below.refl _ _) _ : Below w5.heap.size w5 (w5.alloc (.cells #[.string (bs y)] 9))).mono hz5 |>.trans hb4)); clear hO4 hb4))
            go_roundw
            case rel => exact ⟨k + 1, true, o ++ [key m] ++ [y], A4, c4, by omega, by go_num, rfl, by simp, ⟨fun e => (by cases e), by simp; omega⟩, Lib.hid (by simpa using HO4.out), HK2, HB4⟩
            case measure => simp [intOf]; try omega
        · have HK2 : Hid (insR (key m) true (o ++ [y]) (l.drop (k + 1)) = R) := Lib.hid (by rw [insR_done]; exact hkk)
          clear hkk hp
          go_wp2_with (at_builtin; refine wpList_app_txt rfl _ _ rfl _ w.heap.size o.length _ o rfl rfl (HO.out.keep (al (Below.refl _ _) _)) ⟨wr.heap.size, 0, none⟩ y rfl (cell_one_new wr (.string (bs y)) 9) (by simp; omega) (by omega) ?_; intro A4 c4 w4 hO4 hb4; have HO4 := Lib.hid hO4; have HB4 := Lib.hid (HB.out.trans ((al (Below.refl _ _) _ : Below wr.heap.size wr (wr.alloc (.cells #[.string (bs y)] 9))).mono hz |>.trans hb4)); clear hO4 hb4)
          go_roundw
          case rel => exact ⟨k + 1, true, o ++ [y], A4, c4, by omega, by go_num, rfl, by simp, ⟨fun e => (by cases e), by simp; omega⟩, Lib.hid (by simpa using HO4.out), HK2, HB4⟩
          case measure => simp [intOf]; try omega
      · have l1 : ¬ (k : Int) < (l.length : Int) := by omega
        obtain rfl : k = l.length := by omega
        have hkk := HK.out
        rw [List.drop_length] at hkk
        cases D
        · rw [insR_end] at hkk
          have HKK := Lib.hid hkk
          have hz := HB.out.size
          clear hkk
          go_wp2_with (at_builtin; refine wpList_app_txt rfl _ _ rfl _ w.heap.size o.length _ o rfl rfl (HO.out.keep (al (Below.refl _ _) _)) ⟨wr.heap.size, 0, none⟩ (key m) rfl (cell_one_new wr (.string m) 9) (by simp; omega) (by omega) ?_; intro A4 c4 w4 hO4 hb4; have HO4 := Lib.hid hO4; have HB4 := Lib.hid (HB.out.trans ((al (Below.refl _ _) _ : Below wr.heap.size wr (wr.alloc (.cells #[.string m] 9))).mono hz |>.trans hb4)); clear hO4 hb4)
          go_ret
          rw [← HKK.out]
          have h := HO4.out.form
          obtain ⟨A5, c5, e5, hR5, _⟩ := h
          have e6 : Value.slice A4 (o.length + 1) c4 = .slice A5 (o ++ [key m]).length c5 := e5
          exact ⟨A5, c5, by rw [e6]; rfl, hR5, HB4.out⟩
        · rw [insR_end2] at hkk
          subst hkk
          go_wp2
          go_ret
          obtain ⟨A5, c5, e5, hR5, _⟩ := HO.out.form
          exact ⟨A5, c5, by rw [e5]; rfl, hR5, HB.out⟩
  · have X : Hid (withK l (key m) = l) := Lib.hid (by unfold withK; rw [if_pos (of_decide_eq_true hq)])
    rw [X.out]
    clear hq hT hal
    go_enter Try.func107, Try.ntmps107
    go_wp2_with (go_at_call 114; (with_reducible refine HIN.out.mono ?_); rintro e w1 ⟨rfl, rfl⟩)
    go_ret
    exact ⟨A, c, rfl, HT.out, Below.refl _ _⟩
end Go.Proofs.Ytnjkphopklbogaa
namespace Go.Proofs.Ytnjkphopklbogaa
open Go.RowKit

theorem withK_len (l : List Bs) (s : Bs) : (withK l s).length ≤ l.length + 1 := by
  have h : ∀ l : List Bs, (insK s l).length = l.length + 1 := by
    intro l
    induction l with
    | nil => rfl
    | cons x r ih =>
      unfold insK
      split
      · rfl
      · simp [ih]
  unfold withK
  split
  · omega
  · rw [h]; exact Nat.le_refl _
theorem foldK_len : ∀ (L l : List Bs), (L.foldl withK l).length ≤ l.length + L.length
  | [], l => by simp
  | s :: L, l => by
    have h1 := foldK_len L (withK l s)
    have h2 := withK_len l s
    show (L.foldl withK (withK l s)).length ≤ l.length + (L.length + 1)
    omega
theorem foldK_step {o : Int} {ks : List Ex} {k : Nat} (h : k < ks.length) (l : List Bs) : (occL o (ks.drop k)).foldl withK l = (occL o (ks.drop (k + 1))).foldl withK ((occ o (kd ks k)).foldl withK l) := by
  rw [kd_drop h]
  show (occ o (kd ks k) ++ occL o (ks.drop (k + 1))).foldl withK l = _
  rw [List.foldl_append]
theorem szL_drop {ks : List Ex} {k : Nat} (h : k < ks.length) : szL (ks.drop k) = (kd ks k).sz + szL (ks.drop (k + 1)) := by
  rw [kd_drop h]; rfl
set_option maxRecDepth 100000 in
set_option maxHeartbeats 4000000 in
theorem rf_names (o : Int) : ∀ (n : Nat) t, t.sz ≤ n → n ≤ 100000000 → ∀ A c (l : List Bs) B d w, Rep w.heap.size w A t → RT w w.heap.size B l → l.length + t.sz ≤ 900000000 →
    Calls Try.prog 94 #[exV t A c, .int .i64 o, .slice B l.length d] w (TxP ((occ o t).foldl withK l) w) := by
  intro n
  induction n with
  | zero => intro t h; have := sz_eq t; omega
  | succ n ih =>
    intro t ht hn A c l B d w hR hT hlz
    have HIH := Lib.hid (fun t h => ih t h (by omega))
    have HR := Lib.hid hR
    have HT := Lib.hid hT
    have hlen := szL_len t.ks
    have hszt := sz_eq t
    have hkb : t.ks.length ≤ 100000000 := by omega
    clear ih hR hT
    have HB : Hid (∀ ob, Below w.heap.size w (w.alloc ob)) := Lib.hid (fun ob => (Below.refl _ _).alloc (Nat.le_refl _) ob)
    have HX : Hid (∀ wr, Below (w.alloc (.cells (exC t A c) 24)).heap.size (w.alloc (.cells (exC t A c) 24)) wr → (wr.cell? ⟨w.heap.size, 0, none⟩ = some (.int .i64 t.op) ∧ wr.cell? ⟨w.heap.size, 1, none⟩ = some (.int .i64 t.vr) ∧ wr.cell? ⟨w.heap.size, 2, none⟩ = some (.string t.nm) ∧ wr.cell? ⟨w.heap.size, 3, none⟩ = some (.slice A t.ks.length c)) ∧ Below w.heap.size w wr ∧ w.heap.size < wr.heap.size) := Lib.hid (fun wr h => by
        have hk := (Blk.new w 24 (exC t A c))
        have hsz : (w.alloc (.cells (exC t A c) 24)).heap.size = w.heap.size + 1 := by simp
        have hk2 : Blk wr w.heap.size 24 (exC t A c) := (h.block _ (by rw [hsz]; omega)).trans hk
        refine ⟨⟨hk2.cell 0, hk2.cell 1, hk2.cell 2, hk2.cell 3⟩, (HB.out _).trans (h.mono (HB.out _).size), ?_⟩
        have := h.size
        rw [hsz] at this
        omega)
    obtain ⟨L1, hL1⟩ : ∃ L1, (if t.op = o then withK l (key t.nm) else l) = L1 := ⟨_, rfl⟩
    have hl1 : L1.length ≤ l.length + 1 := by
      rw [← hL1]; split
      · exact withK_len _ _
      · omega
    obtain ⟨R, hR⟩ : ∃ R, (occ o t).foldl withK l = R := ⟨_, rfl⟩
    have HS : Hid ((occL o (t.ks.drop 0)).foldl withK L1 = R) := Lib.hid (by
      rw [← hR, occ_eq, List.foldl_append, ← hL1]
      show (occL o t.ks).foldl withK _ = _
      split <;> rfl)
    have HZ0 : Hid (L1.length + szL (t.ks.drop 0) ≤ 900000000) := Lib.hid (by show L1.length + szL t.ks ≤ _; omega)
    rw [hR]
    have HW : Hid (Calls Try.prog 107 #[.slice B l.length d, .string t.nm] (w.alloc (.cells (exC t A c) 24)) (TxP (withK l (key t.nm)) (w.alloc (.cells (exC t A c) 24)))) := Lib.hid (rf_With l B d t.nm _ (HT.out.step (HB.out _)) (by omega))
    have HBA : Hid (Below (w.alloc (.cells (exC t A c) 24)).heap.size (w.alloc (.cells (exC t A c) 24)) (w.alloc (.cells (exC t A c) 24))) := Lib.hid (Below.refl _ _)
    have HTA : Hid (RT (w.alloc (.cells (exC t A c) 24)) (w.alloc (.cells (exC t A c) 24)).heap.size B l) := Lib.hid (HT.out.step (HB.out _))
    clear hR
    by_cases ho : t.op = o
    · rw [if_pos ho] at hL1
      rw [hL1] at HW
      have ho1 : (t.op == o) = true := by simp [ho]
      clear ho hL1
      go_enter Try.func94, Try.ntmps94
      go_upto_region 3 with (go_at_call 107; (with_reducible refine HW.out.mono ?_); rintro e w2 ⟨B2, d2, rfl, hR2, hb2⟩; obtain ⟨⟨q0, q1, q2, q3⟩, hbw2, hz2⟩ := HX.out _ hb2; have HRT := Lib.hid hR2; have HB2 := Lib.hid hb2; clear hR2 hb2)
      go_wp2_with fail
      go_loopw [2, 7] (fun s2 i wr => ∃ (k : Nat) (lk : List Bs) (Bk : Option Addr) (dk : Nat), k ≤ t.ks.length ∧ i = .int .i64 (k : Int) ∧ s2 = .slice Bk lk.length dk ∧ Hid (RT wr wr.heap.size Bk lk) ∧ Hid ((occL o (t.ks.drop k)).foldl withK lk = R) ∧ Hid (lk.length + szL (t.ks.drop k) ≤ 900000000) ∧ Hid (Below (w.alloc (.cells (exC t A c) 24)).heap.size (w.alloc (.cells (exC t A c) 24)) wr)) (fun _ i _ => t.ks.length - (intOf i).toNat)
      case atStart => exact ⟨0, L1, B2, d2, Nat.zero_le _, rfl, rfl, HRT, HS, HZ0, HB2⟩
      case round =>
        obtain ⟨k, lk, Bk, dk, hk, rfl, rfl, HRk, HVk, HZk, HBk⟩ := hrel
        obtain ⟨⟨q0, q1, q2, q3⟩, hbw, hszr⟩ := HX.out _ HBk.out
        by_cases hlt : k < t.ks.length
        · have l1 : (k : Int) < (t.ks.length : Int) := by omega
          obtain ⟨b, f0, rfl, hbl, hc⟩ := HR.out.out (by omega)
          obtain ⟨ka, kc, c0, c1, c2, c3, hRk⟩ := hc k hlt
          have d0 := (hbw.cell (p := ⟨b, f0 + k * 4, none⟩) hbl).trans c0
          have d1 := (hbw.cell (p := ⟨b, f0 + k * 4 + 1, none⟩) hbl).trans c1
          have d2 := (hbw.cell (p := ⟨b, f0 + k * 4 + 2, none⟩) hbl).trans c2
          have d3 := (hbw.cell (p := ⟨b, f0 + k * 4 + 3, none⟩) hbl).trans c3
          have hu := kd_sz hlt
          have hzk := HZk.out
          have hvk := HVk.out
          rw [szL_drop hlt] at hzk
          rw [foldK_step hlt] at hvk
          have hln := foldK_len (occ o (kd t.ks k)) lk
          have hoc := occ_le o (kd t.ks k)
          have HC := Lib.hid (HIH.out (kd t.ks k) (by omega) ka kc lk Bk dk wr (hRk.step hbw) HRk.out (by omega))
          have HZ2 : Hid (((occ o (kd t.ks k)).foldl withK lk).length + szL (t.ks.drop (k + 1)) ≤ 900000000) := Lib.hid (by omega)
          have HV2 := Lib.hid hvk
          clear hc c0 c1 c2 c3 hRk hzk hvk hln hoc hu
          generalize (occ o (kd t.ks k)).foldl withK lk = lk2 at HC HZ2 HV2
          generalize kd t.ks k = u at *
          go_wp2_with (go_at_call 94; (with_reducible refine HC.out.mono ?_); rintro e w3 ⟨B3, e3, rfl, hR3, hb3⟩; have HR3 := Lib.hid hR3; have HB3 := Lib.hid (bt HBk.out hb3); clear hR3 hb3)
          go_roundw
          case rel => exact ⟨k + 1, lk2, B3, e3, by omega, by go_num, rfl, HR3, HV2, HZ2, HB3⟩
          case measure => simp [intOf]; try omega
        · have l1 : ¬ (k : Int) < (t.ks.length : Int) := by omega
          obtain rfl : k = t.ks.length := by omega
          have hvk := HVk.out
          rw [List.drop_length] at hvk
          have hvk2 : lk = R := hvk
          subst hvk2
          go_wp2
          go_ret
          exact ⟨Bk, dk, rfl, HRk.out, hbw⟩
    · rw [if_neg ho] at hL1
      subst hL1
      have ho1 : (t.op == o) = false := by simp [ho]
      clear ho HW
      go_enter Try.func94, Try.ntmps94
      go_wp2_with fail
      go_loopw [2, 7] (fun s2 i wr => ∃ (k : Nat) (lk : List Bs) (Bk : Option Addr) (dk : Nat), k ≤ t.ks.length ∧ i = .int .i64 (k : Int) ∧ s2 = .slice Bk lk.length dk ∧ Hid (RT wr wr.heap.size Bk lk) ∧ Hid ((occL o (t.ks.drop k)).foldl withK lk = R) ∧ Hid (lk.length + szL (t.ks.drop k) ≤ 900000000) ∧ Hid (Below (w.alloc (.cells (exC t A c) 24)).heap.size (w.alloc (.cells (exC t A c) 24)) wr)) (fun _ i _ => t.ks.length - (intOf i).toNat)
      case atStart => exact ⟨0, l, B, d, Nat.zero_le _, rfl, rfl, HTA, HS, HZ0, HBA⟩
      case round =>
        obtain ⟨k, lk, Bk, dk, hk, rfl, rfl, HRk, HVk, HZk, HBk⟩ := hrel
        obtain ⟨⟨q0, q1, q2, q3⟩, hbw, hszr⟩ := HX.out _ HBk.out
        by_cases hlt : k < t.ks.length
        · have l1 : (k : Int) < (t.ks.length : Int) := by omega
          obtain ⟨b, f0, rfl, hbl, hc⟩ := HR.out.out (by omega)
          obtain ⟨ka, kc, c0, c1, c2, c3, hRk⟩ := hc k hlt
          have d0 := (hbw.cell (p := ⟨b, f0 + k * 4, none⟩) hbl).trans c0
          have d1 := (hbw.cell (p := ⟨b, f0 + k * 4 + 1, none⟩) hbl).trans c1
          have d2 := (hbw.cell (p := ⟨b, f0 + k * 4 + 2, none⟩) hbl).trans c2
          have d3 := (hbw.cell (p := ⟨b, f0 + k * 4 + 3, none⟩) hbl).trans c3
          have hu := kd_sz hlt
          have hzk := HZk.out
          have hvk := HVk.out
          rw [szL_drop hlt] at hzk
          rw [foldK_step hlt] at hvk
          have hln := foldK_len (occ o (kd t.ks k)) lk
          have hoc := occ_le o (kd t.ks k)
          have HC := Lib.hid (HIH.out (kd t.ks k) (by omega) ka kc lk Bk dk wr (hRk.step hbw) HRk.out (by omega))
          have HZ2 : Hid (((occ o (kd t.ks k)).foldl withK lk).length + szL (t.ks.drop (k + 1)) ≤ 900000000) := Lib.hid (by omega)
          have HV2 := Lib.hid hvk
          clear hc c0 c1 c2 c3 hRk hzk hvk hln hoc hu
          generalize (occ o (kd t.ks k)).foldl withK lk = lk2 at HC HZ2 HV2
          generalize kd t.ks k = u at *
          go_wp2_with (go_at_call 94; (with_reducible refine HC.out.mono ?_); rintro e w3 ⟨B3, e3, rfl, hR3, hb3⟩; have HR3 := Lib.hid hR3; have HB3 := Lib.hid (bt HBk.out hb3); clear hR3 hb3)
          go_roundw
          case rel => exact ⟨k + 1, lk2, B3, e3, by omega, by go_num, rfl, HR3, HV2, HZ2, HB3⟩
          case measure => simp [intOf]; try omega
        · have l1 : ¬ (k : Int) < (t.ks.length : Int) := by omega
          obtain rfl : k = t.ks.length := by omega
          have hvk := HVk.out
          rw [List.drop_length] at hvk
          have hvk2 : lk = R := hvk
          subst hvk2
          go_wp2
          go_ret
          exact ⟨Bk, dk, rfl, HRk.out, hbw⟩
def NamS (L M : List Bs) (w : World) (e : Ending) (w' : World) : Prop := ∃ A c B d, e = .returned (.tuple #[.slice A L.length c, .slice B M.length d]) ∧ RT w' w'.heap.size A L ∧ RT w' w'.heap.size B M ∧ Below w.heap.size w w'
set_option maxRecDepth 100000 in
set_option maxHeartbeats 4000000 in
theorem rf_Names (t : Ex) (A : Option Addr) (c : Nat) (w : World) (hs : t.sz ≤ 100000000) (hR : Rep w.heap.size w A t) : Calls Try.prog 65 #[exV t A c] w (NamS (setK (occ 3 t)) (setK (occ 4 t)) w) := by
  have HN : Hid (∀ o wx, Below w.heap.size w wx → Calls Try.prog 94 #[exV t A c, .int .i64 o, .slice none 0 0] wx (TxP (setK (occ o t)) wx)) := Lib.hid (fun o wx h => by
    have h2 := rf_names o t.sz t (Nat.le_refl _) hs A c [] none 0 wx (hR.step h) RT.nil (by simp; omega)
    rw [foldK_set] at h2
    exact h2)
  obtain ⟨W, hW⟩ : ∃ W, w.alloc (.cells #[.int .i64 t.op, .int .i64 t.vr, .string t.nm, .slice A t.ks.length c] 24) = W := ⟨_, rfl⟩
  have hk : Blk W w.heap.size 24 #[.int .i64 t.op, .int .i64 t.vr, .string t.nm, .slice A t.ks.length c] := by rw [← hW]; exact Blk.new _ _ _
  have hbW : Below w.heap.size w W := by rw [← hW]; exact al (Below.refl _ _) _
  have HX : Hid (∀ wx, Below W.heap.size W wx → (wx.cell? ⟨w.heap.size, 0, none⟩ = some (.int .i64 t.op) ∧ wx.cell? ⟨w.heap.size, 1, none⟩ = some (.int .i64 t.vr) ∧ wx.cell? ⟨w.heap.size, 2, none⟩ = some (.string t.nm) ∧ wx.cell? ⟨w.heap.size, 3, none⟩ = some (.slice A t.ks.length c)) ∧ Below w.heap.size w wx) := Lib.hid (fun wx h => by
    have k := hk.below h hk.lt
    exact ⟨⟨k.cell 0, k.cell 1, k.cell 2, k.cell 3⟩, bt hbW h⟩)
  have HWW := Lib.hid hW
  have HDR : Hid (Below W.heap.size W W.drew) := Lib.hid (Below.refl _ _).drew
  have HN3 : Hid (∀ wx, Below w.heap.size w wx → Calls Try.prog 94 #[exV t A c, .int .i64 3, .slice none 0 0] wx (TxP (setK (occ 3 t)) wx)) := Lib.hid (fun wx h => HN.out 3 wx h)
  have HN4 : Hid (∀ wx, Below w.heap.size w wx → Calls Try.prog 94 #[exV t A c, .int .i64 4, .slice none 0 0] wx (TxP (setK (occ 4 t)) wx)) := Lib.hid (fun wx h => HN.out 4 wx h)
  clear HN hk hbW hW hR hs
  generalize setK (occ 3 t) = L at *
  generalize setK (occ 4 t) = M at *
  show Calls Try.prog 65 #[.agg #[.int .i64 t.op, .int .i64 t.vr, .string t.nm, .slice A t.ks.length c]] w _
  go_enter Try.func65, Try.ntmps65
  go_upto_region 1 with (go_at_call 999)
  rw [HWW.out]
  go_region_held3 (fun wx => wx.cell? ⟨w.heap.size, 0, none⟩ = some (.int .i64 t.op) ∧ wx.cell? ⟨w.heap.size, 1, none⟩ = some (.int .i64 t.vr) ∧ wx.cell? ⟨w.heap.size, 2, none⟩ = some (.string t.nm) ∧ wx.cell? ⟨w.heap.size, 3, none⟩ = some (.slice A t.ks.length c)) (first | with_reducible exact (HX.out _ H4.out).1 | with_reducible exact (HX.out _ H3.out).1 | exact (HX.out _ HDR.out).1 | go_keep) ((first
    | (go_at_call 94; (with_reducible refine (HN4.out _ (HX.out _ H3.out).2).mono ?_); rintro e w4 ⟨B4, d4, rfl, hR4, hb4⟩; have H4 := Lib.hid (bt H3.out hb4); have R4 := Lib.hid hR4; have R3b := Lib.hid (R3.out.step hb4); clear hR4 hb4)
    | (go_at_call 94; (with_reducible refine (HN3.out _ (HX.out _ HDR.out).2).mono ?_); rintro e w3 ⟨B3, d3, rfl, hR3, hb3⟩; have H3 := Lib.hid (bt HDR.out hb3); have R3 := Lib.hid hR3; clear hR3 hb3)))
  all_goals go_wp2
  all_goals go_ret2
  all_goals exact ⟨B3, d3, B4, d4, rfl, R3b.out, R4.out, (HX.out _ H4.out).2⟩
end Go.Proofs.Ytnjkphopklbogaa
namespace Go.Proofs.Ytnjkphopklbogaa
open Go.RowKit

mutual
theorem hx_occ : ∀ t : Ex, hx t = true ↔ occ 4 t ≠ []
  | .mk o v m ks => by
    rw [hx_eq, occ_eq]
    show ((o == 4) || hxL ks) = true ↔ (if o = 4 then [key m] else []) ++ occL 4 ks ≠ []
    have h := hxL_occ ks
    by_cases ho : o = 4
    · simp [ho]
    · simp [ho, h]
theorem hxL_occ : ∀ l : List Ex, hxL l = true ↔ occL 4 l ≠ []
  | [] => by simp [hxL, occL]
  | t :: r => by
    have h1 := hx_occ t
    have h2 := hxL_occ r
    show (hx t || hxL r) = true ↔ occ 4 t ++ occL 4 r ≠ []
    rw [Bool.or_eq_true, h1, h2]
    cases occ 4 t <;> cases occL 4 r <;> simp
end
theorem set_hx (t : Ex) : (0 < (setK (occ 4 t)).length) ↔ hx t = true := by
  rw [hx_occ, List.length_pos_iff]
  constructor
  · intro h h2
    rw [h2] at h
    exact h setK_nil
  · intro h h2
    apply h
    cases ho : occ 4 t with
    | nil => rfl
    | cons a l =>
      have := (setK_mem (occ 4 t) a).2 (by rw [ho]; exact List.mem_cons_self)
      rw [h2] at this
      cases this
theorem flF_part (t : Fx) (d k : Int) : flF t d k = if 64 < d then 17 else if flF t 1 0 ≠ 0 then flF t 1 0 else if 4096 < k then 4 else 0 := by
  unfold flF
  by_cases h1 : 64 < d
  · simp [h1]
  rw [if_neg h1, if_neg h1, if_neg (show ¬ ((64 : Int) < 1) by decide)]
  by_cases h2 : t.op < 1 ∨ 13 < t.op
  · simp [h2]
  rw [if_neg h2, if_neg h2]
  by_cases h3 : tfl t ≠ 0
  · rw [if_pos h3, if_pos h3, if_pos h3]
  rw [if_neg h3, if_neg h3]
  by_cases h4 : (t.ks.length : Int) ≠ fk t.op
  · rw [if_pos h4, if_pos h4, if_pos (by decide)]
  rw [if_neg h4, if_neg h4]
  by_cases h5 : t.op ≠ 1 ∧ noth t.e = false
  · rw [if_pos h5, if_pos h5, if_pos (by decide)]
  rw [if_neg h5, if_neg h5]
  simp
set_option maxRecDepth 100000 in
set_option maxHeartbeats 8000000 in
theorem rf_one (t : Fx) (E A : Option Addr) (dd c : Nat) (w : World) (hs : t.sz ≤ 100000000) (hR : Fm w.heap.size w t E A) : Calls Try.prog 58 #[fV t E dd A c] w fun e w' => e = .returned (.int .i64 (flF t 1 0)) ∧ Below w.heap.size w w' := by
  have hes := fe_sz t
  have HAL : Hid (∀ o, Below w.heap.size w (w.alloc o)) := Lib.hid (fun o => bal _ _)
  have HF := Lib.hid (fal t E A dd c w)
  have HX : Hid (∀ wx, Below (w.alloc (.cells (fC t E dd A c) 27)).heap.size (w.alloc (.cells (fC t E dd A c) 27)) wx → FAt wx w.heap.size 0 t E dd A c ∧ Below w.heap.size w wx) := Lib.hid (fun wx hb => ⟨HF.out.below hb (by simp), bt (HAL.out _) hb⟩)
  have HC : Hid (Calls Try.prog 81 #[exV t.e E dd] (w.alloc (.cells (fC t E dd A c) 27)) fun e w' => e = .returned (.int .i64 (chkE t.e)) ∧ Below (w.alloc (.cells (fC t E dd A c) 27)).heap.size (w.alloc (.cells (fC t E dd A c) 27)) w') := Lib.hid (rf_Check t.e E dd _ (by omega) (hR.1.step (bal _ _)))
  have HN : Hid (∀ wx, Below (w.alloc (.cells (fC t E dd A c) 27)).heap.size (w.alloc (.cells (fC t E dd A c) 27)) wx → Calls Try.prog 65 #[exV t.e E dd] wx fun e w' => ∃ A2 c2 B2 d2, e = .returned (.tuple #[.slice A2 (setK (occ 3 t.e)).length c2, .slice B2 (setK (occ 4 t.e)).length d2]) ∧ Below (w.alloc (.cells (fC t E dd A c) 27)).heap.size (w.alloc (.cells (fC t E dd A c) 27)) w') := Lib.hid (fun wx hb => (rf_Names t.e E dd wx (by omega) ((hR.1.step (bal _ _)).step hb)).mono (by
    rintro e w' ⟨A2, c2, B2, d2, h1, _, _, h4⟩
    exact ⟨A2, c2, B2, d2, h1, bt hb h4⟩))
  have HNO : Hid (∀ wx : World, Calls Try.prog 82 #[exV t.e E dd] wx (ValP wx (noth t.e))) := Lib.hid (fun wx => rf_noth t.e E dd wx)
  obtain ⟨R, hR2⟩ : ∃ R, flF t 1 0 = R := ⟨_, rfl⟩
  rw [hR2]
  unfold flF at hR2
  rw [if_neg (by decide)] at hR2
  clear hs hes hR
  obtain ⟨nq, hnq⟩ : ∃ nq, noth t.e = nq := ⟨_, rfl⟩
  rw [hnq] at hR2 HNO
  by_cases h2 : t.op < 1 ∨ 13 < t.op
  · have HK : Hid (∀ wx : World, Calls Try.prog 80 #[.int .i64 t.op] wx fun e w' => e = .returned (.int .i64 (-1)) ∧ wx = w') := Lib.hid (fun wx => rf_fKids_out t.op wx h2)
    rw [if_pos h2] at hR2
    have X := Lib.hid hR2
    clear hR2 h2 hnq
    obtain ⟨p0, p1, p2, p3, p4, p5⟩ := HF.out
    go_enter Try.func58, Try.ntmps58
    go_wp2_with (go_at_call 80; (with_reducible refine (HK.out _).mono ?_); rintro e w1 ⟨rfl, rfl⟩)
    go_ret
    exact ⟨by rw [← X.out]; rfl, HAL.out _⟩
  rw [if_neg h2] at hR2
  have HK : Hid (∀ wx : World, Calls Try.prog 80 #[.int .i64 t.op] wx fun e w' => e = .returned (.int .i64 (fk t.op)) ∧ wx = w') := Lib.hid (fun wx => rf_fKids_in t.op wx (by omega))
  have hff : 0 ≤ fk t.op := by unfold fk; split <;> (try split) <;> decide
  obtain ⟨ff, hff2⟩ : ∃ ff, fk t.op = ff := ⟨_, rfl⟩
  rw [hff2] at hR2 HK hff
  have hff3 : ¬ ff < 0 := by omega
  clear hff2 hff h2
  by_cases ho : t.op = 1
  · have ho1 : (t.op == 1) = true := by simp [ho]
    have ho2 : (t.op != 1) = false := by simp [ho]
    obtain ⟨z, hz⟩ : ∃ z, chkE t.e = z := ⟨_, rfl⟩
    have ht : tfl t = if z ≠ 0 then z else if hx t.e = true then 24 else 0 := by unfold tfl; rw [if_pos ho, hz]
    rw [ht] at hR2
    rw [hz] at HC
    rw [if_neg (show ¬ (t.op ≠ 1 ∧ nq = false) from fun h => h.1 ho)] at hR2
    clear ho ht hz
    by_cases hz0 : z = 0
    · subst hz0
      simp only [ne_eq, not_true_eq_false, if_false] at hR2
      by_cases hh : hx t.e = true
      · have hl : 0 < (setK (occ 4 t.e)).length := (set_hx t.e).2 hh
        rw [if_pos hh] at hR2
        have X : Hid (R = 24) := Lib.hid (by rw [← hR2]; rfl)
        generalize (setK (occ 4 t.e)).length = n4 at *
        have l4 : (0 : Int) < (n4 : Int) := by omega
        clear hR2 hh hnq
        obtain ⟨p0, p1, p2, p3, p4, p5⟩ := HF.out
        go_enter Try.func58, Try.ntmps58
        go_wp2_with (first
          | (go_at_call 65; have _ := HB1; (with_reducible refine (HN.out _ HB1.out).mono ?_); rintro e w2 ⟨A2, c2, B2, d2, rfl, hb2⟩; have HB2 := Lib.hid hb2; clear hb2)
          | (go_at_call 81; (with_reducible refine HC.out.mono ?_); rintro e w1 ⟨rfl, hb1⟩; have HB1 := Lib.hid hb1; obtain ⟨r0, r1, r2, r3, r4, r5⟩ := (HX.out _ hb1).1; clear hb1)
          | (go_at_call 80; (with_reducible refine (HK.out _).mono ?_); rintro e w0 ⟨rfl, rfl⟩))
        go_ret
        exact ⟨by rw [X.out]; rfl, (HX.out _ HB2.out).2⟩
      · have hl : ¬ 0 < (setK (occ 4 t.e)).length := fun h => hh ((set_hx t.e).1 h)
        rw [if_neg hh] at hR2
        simp only [not_true_eq_false, if_false] at hR2
        have hl0 : (setK (occ 4 t.e)).length = 0 := by omega
        rw [hl0] at HN
        have hR3 : (if (t.ks.length : Int) ≠ ff then (3 : Int) else 0) = R := by rw [← hR2]; simp
        clear hR2 hh hl hl0 hnq
        obtain ⟨p0, p1, p2, p3, p4, p5⟩ := HF.out
        by_cases hk : (t.ks.length : Int) = ff
        · have e5 : ((t.ks.length : Int) != ff) = false := by simp [hk]
          have X : Hid (R = 0) := Lib.hid (by rw [← hR3, if_neg (by simpa using hk)])
          clear hR3 hk
          go_enter Try.func58, Try.ntmps58
          go_upto_region 10 with (first
            | (go_at_call 65; have _ := HB1; (with_reducible refine (HN.out _ HB1.out).mono ?_); rintro e w2 ⟨A2, c2, B2, d2, rfl, hb2⟩; have HB2 := Lib.hid hb2; obtain ⟨s0, s1, s2, s3, s4, s5⟩ := (HX.out _ hb2).1; clear hb2)
            | (go_at_call 81; (with_reducible refine HC.out.mono ?_); rintro e w1 ⟨rfl, hb1⟩; have HB1 := Lib.hid hb1; obtain ⟨r0, r1, r2, r3, r4, r5⟩ := (HX.out _ hb1).1; clear hb1)
            | (go_at_call 80; (with_reducible refine (HK.out _).mono ?_); rintro e w0 ⟨rfl, rfl⟩))
          go_quiet ((go_at_call 80; exact Calls.quiet_of_same ((HK.out _).mono fun _ _ h => ⟨h.1, h.2.symm⟩)))
          go_wp2
          go_ret
          exact ⟨by rw [X.out]; rfl, below_drewN (HX.out _ HB2.out).2 _⟩
        · have e5 : ((t.ks.length : Int) != ff) = true := by simp [hk]
          have X : Hid (R = 3) := Lib.hid (by rw [← hR3, if_pos hk])
          clear hR3 hk
          go_enter Try.func58, Try.ntmps58
          go_upto_region 10 with (first
            | (go_at_call 65; have _ := HB1; (with_reducible refine (HN.out _ HB1.out).mono ?_); rintro e w2 ⟨A2, c2, B2, d2, rfl, hb2⟩; have HB2 := Lib.hid hb2; obtain ⟨s0, s1, s2, s3, s4, s5⟩ := (HX.out _ hb2).1; clear hb2)
            | (go_at_call 81; (with_reducible refine HC.out.mono ?_); rintro e w1 ⟨rfl, hb1⟩; have HB1 := Lib.hid hb1; obtain ⟨r0, r1, r2, r3, r4, r5⟩ := (HX.out _ hb1).1; clear hb1)
            | (go_at_call 80; (with_reducible refine (HK.out _).mono ?_); rintro e w0 ⟨rfl, rfl⟩))
          go_quiet ((go_at_call 80; exact Calls.quiet_of_same ((HK.out _).mono fun _ _ h => ⟨h.1, h.2.symm⟩)))
          go_wp2
          go_ret
          exact ⟨by rw [X.out]; rfl, below_drewN (HX.out _ HB2.out).2 _⟩
    · have hz1 : (z != 0) = true := by simp [hz0]
      rw [if_pos hz0, if_pos hz0] at hR2
      have X := Lib.hid hR2
      clear hR2 hz0 hnq
      obtain ⟨p0, p1, p2, p3, p4, p5⟩ := HF.out
      go_enter Try.func58, Try.ntmps58
      go_wp2_with (first
        | (go_at_call 81; (with_reducible refine HC.out.mono ?_); rintro e w1 ⟨rfl, hb1⟩; have HB1 := Lib.hid hb1; clear hb1)
        | (go_at_call 80; (with_reducible refine (HK.out _).mono ?_); rintro e w0 ⟨rfl, rfl⟩))
      go_ret
      exact ⟨by rw [← X.out]; rfl, (HX.out _ HB1.out).2⟩
  · have ho1 : (t.op == 1) = false := by simp [ho]
    have ho2 : (t.op != 1) = true := by simp [ho]
    have ht : tfl t = 0 := by unfold tfl; rw [if_neg ho]
    rw [ht, if_neg (by simp)] at hR2
    clear ht HC HN
    obtain ⟨p0, p1, p2, p3, p4, p5⟩ := HF.out
    by_cases hk : (t.ks.length : Int) = ff
    · have e5 : ((t.ks.length : Int) != ff) = false := by simp [hk]
      have hR3 : (if nq = false then (3 : Int) else 0) = R := by
        rw [← hR2, if_neg (show ¬ ((t.ks.length : Int) ≠ ff) from fun h => h hk)]
        by_cases hn : nq = false
        · rw [if_pos hn, if_pos ⟨ho, hn⟩]
        · rw [if_neg hn, if_neg (fun h => hn h.2)]; rfl
      clear hR2 hk ho hnq
      cases nq
      all_goals have X := Lib.hid hR3
      all_goals clear hR3
      all_goals
        go_enter Try.func58, Try.ntmps58
        go_upto_region 10 with (go_at_call 80; (with_reducible refine (HK.out _).mono ?_); rintro e w0 ⟨rfl, rfl⟩)
        have hdr : Below (w.alloc (.cells (fC t E dd A c) 27)).heap.size (w.alloc (.cells (fC t E dd A c) 27)) (w.alloc (.cells (fC t E dd A c) 27)).drew := (Below.refl _ _).drew
        have HEX : Hid (∀ wx, Below (w.alloc (.cells (fC t E dd A c) 27)).heap.size (w.alloc (.cells (fC t E dd A c) 27)) wx → wx.cell? ⟨w.heap.size, 0, none⟩ = some (.int .i64 t.op) ∧ wx.cell? ⟨w.heap.size, 1, none⟩ = some (.int .i64 t.e.op) ∧ wx.cell? ⟨w.heap.size, 2, none⟩ = some (.int .i64 t.e.vr) ∧ wx.cell? ⟨w.heap.size, 3, none⟩ = some (.string t.e.nm) ∧ wx.cell? ⟨w.heap.size, 4, none⟩ = some (.slice E t.e.ks.length dd) ∧ wx.cell? ⟨w.heap.size, 5, none⟩ = some (.slice A t.ks.length c)) := Lib.hid (fun wx hb => by
          have h := (HX.out wx hb).1
          exact ⟨h.c0, by simpa using h.c1, by simpa using h.c2, by simpa using h.c3, by simpa using h.c4, by simpa using h.c5⟩)
        go_region_held3 (fun wx => wx.cell? ⟨w.heap.size, 0, none⟩ = some (.int .i64 t.op) ∧ wx.cell? ⟨w.heap.size, 1, none⟩ = some (.int .i64 t.e.op) ∧ wx.cell? ⟨w.heap.size, 2, none⟩ = some (.int .i64 t.e.vr) ∧ wx.cell? ⟨w.heap.size, 3, none⟩ = some (.string t.e.nm) ∧ wx.cell? ⟨w.heap.size, 4, none⟩ = some (.slice E t.e.ks.length dd) ∧ wx.cell? ⟨w.heap.size, 5, none⟩ = some (.slice A t.ks.length c)) (first
            | with_reducible exact HEX.out _ HB2.out
            | exact HEX.out _ hdr
            | exact HEX.out _ (Below.refl _ _)
            | go_keep) (first
            | (go_at_call 82; (with_reducible refine (HNO.out _).mono ?_); rintro e w2 ⟨rfl, hb2⟩; have HB2 : Hid (Below (w.alloc (.cells (fC t E dd A c) 27)).heap.size (w.alloc (.cells (fC t E dd A c) 27)) w2) := Lib.hid (hdr.trans hb2); clear hb2)
            | (go_at_call 80; (with_reducible refine (HK.out _).mono ?_); rintro e w0 ⟨rfl, rfl⟩))
        all_goals go_wp2
        all_goals go_ret
        all_goals exact ⟨by rw [← X.out]; rfl, by first | exact (HX.out _ HB2.out).2 | exact below_drewN (HX.out _ HB2.out).2 _⟩
    · have e5 : ((t.ks.length : Int) != ff) = true := by simp [hk]
      have X : Hid (R = 3) := Lib.hid (by rw [← hR2, if_pos hk])
      clear hR2 hk ho
      go_enter Try.func58, Try.ntmps58
      go_upto_region 10 with (go_at_call 80; (with_reducible refine (HK.out _).mono ?_); rintro e w0 ⟨rfl, rfl⟩)
      go_quiet ((go_at_call 80; exact Calls.quiet_of_same ((HK.out _).mono fun _ _ h => ⟨h.1, h.2.symm⟩)))
      go_wp2
      go_ret
      exact ⟨by rw [X.out]; rfl, below_drewN (HAL.out _) _⟩
end Go.Proofs.Ytnjkphopklbogaa
namespace Go.Proofs.Ytnjkphopklbogaa
open Go.RowKit

def WalP (w : World) (R : Int × Int) (e : Ending) (w' : World) : Prop := ∃ a : Int, e = .returned (.tuple #[.int .i64 R.1, .int .i64 a]) ∧ (R.1 = 0 → a = R.2) ∧ Below w.heap.size w w'
set_option maxRecDepth 100000 in
set_option maxHeartbeats 8000000 in
theorem rf_walk : ∀ (n : Nat) t, t.sz ≤ n → n ≤ 100000000 → ∀ E dd A c (d k : Int) w, Fm w.heap.size w t E A → 0 ≤ d → d + (n : Int) ≤ 1000000000 →
    Calls Try.prog 33 #[fV t E dd A c, .int .i64 d, .int .i64 k] w (WalP w (chF t d k)) := by
  intro n
  induction n with
  | zero => intro t h; have := fsz_pos t; omega
  | succ n ih =>
    intro t ht hnn E dd A c d k w hR hd0 hd1
    have HIH := Lib.hid ih
    have HR := Lib.hid hR
    have hkb : t.ks.length ≤ 1000000000 := by have := fkl_sz t; omega
    obtain ⟨R, hRR⟩ : ∃ R, chF t d k = R := ⟨_, rfl⟩
    rw [hRR]
    rw [chF_eq, flF_part] at hRR
    have HAL : Hid (∀ o, Below w.heap.size w (w.alloc o)) := Lib.hid (fun o => bal _ _)
    have HP : Hid (Calls Try.prog 58 #[fV t E dd A c] (w.alloc (.cells (fC t E dd A c) 27)) fun e w' => e = .returned (.int .i64 (flF t 1 0)) ∧ Below (w.alloc (.cells (fC t E dd A c) 27)).heap.size (w.alloc (.cells (fC t E dd A c) 27)) w') := Lib.hid (rf_one t E A dd c _ (by omega) (hR.step (bal _ _)))
    have HF := Lib.hid (fal t E A dd c w)
    have HX : Hid (∀ wx, Below (w.alloc (.cells (fC t E dd A c) 27)).heap.size (w.alloc (.cells (fC t E dd A c) 27)) wx → FAt wx w.heap.size 0 t E dd A c ∧ Below w.heap.size w wx ∧ w.heap.size < wx.heap.size) := Lib.hid (fun wx hb => ⟨HF.out.below hb (by simp), bt (HAL.out _) hb, by have := hb.size; simp at this; omega⟩)
    obtain ⟨p, hp⟩ : ∃ p, flF t 1 0 = p := ⟨_, rfl⟩
    rw [hp] at hRR HP
    clear ih hR hp
    obtain ⟨p0, p1, p2, p3, p4, p5⟩ := HF.out
    by_cases hdd : 64 < d
    · have X : Hid (R = (17, (wrap64 (k + 1)))) := Lib.hid (by rw [← hRR, if_pos hdd, if_neg (by decide)])
      clear hRR
      go_enter Try.func33, Try.ntmps33
      go_wp2
      go_ret2
      exact ⟨k, by rw [X.out]; rfl, (fun h => by rw [X.out] at h; cases h), HAL.out _⟩
    rw [if_neg hdd] at hRR
    by_cases hp0 : p = 0
    · subst hp0
      rw [if_neg (show ¬ ((0 : Int) ≠ 0) by simp)] at hRR
      by_cases h5 : 4096 < (wrap64 (k + 1))
      · have X : Hid (R = (4, (wrap64 (k + 1)))) := Lib.hid (by rw [← hRR, if_pos h5]; rfl)
        clear hRR
        go_enter Try.func33, Try.ntmps33
        go_wp2_with (go_at_call 58; (with_reducible refine HP.out.mono ?_); rintro e w1 ⟨rfl, hb1⟩; have HB1 := Lib.hid hb1; clear hb1)
        go_ret2
        exact ⟨(wrap64 (k + 1)), by rw [X.out]; rfl, (fun h => by rw [X.out] at h; cases h), (HX.out _ HB1.out).2.1⟩
      · have hRR2 : chFL (t.ks.drop 0) (d + 1) (wrap64 (k + 1)) = R := by rw [← hRR, if_neg h5]; rfl
        have X := Lib.hid hRR2
        clear hRR hRR2
        go_enter Try.func33, Try.ntmps33
        go_wp2_with (go_at_call 58; (with_reducible refine HP.out.mono ?_); rintro e w1 ⟨rfl, hb1⟩; have HB1 := Lib.hid hb1; obtain ⟨r0, r1, r2, r3, r4, r5⟩ := (HX.out _ hb1).1; clear hb1)
        go_loopw [2, 8, 9] (fun parts er i wr => ∃ (j : Nat) (kk : Int), j ≤ t.ks.length ∧ i = .int .i64 (j : Int) ∧ parts = .int .i64 kk ∧ er = .int .i64 0 ∧ Hid (chFL (t.ks.drop j) (d + 1) kk = R) ∧ Below (w.alloc (.cells (fC t E dd A c) 27)).heap.size (w.alloc (.cells (fC t E dd A c) 27)) wr) (fun _ _ i _ => t.ks.length - (intOf i).toNat)
        case atStart => exact ⟨0, (wrap64 (k + 1)), Nat.zero_le _, rfl, rfl, rfl, X, HB1.out⟩
        case round =>
          obtain ⟨j, kk, hj, rfl, rfl, rfl, HV, hb⟩ := hrel
          obtain ⟨⟨q0, q1, q2, q3, q4, q5⟩, hbw, hszr⟩ := HX.out _ hb
          by_cases hlt : j < t.ks.length
          · have l1 : (j : Int) < (t.ks.length : Int) := by omega
            obtain ⟨b, f0, rfl, hbl, hc⟩ := HR.out.2.out (by omega)
            obtain ⟨ea, ec, ka, kc, hAt, hRe, hRk⟩ := hc j hlt
            obtain ⟨d0, d1, d2, d3, d4, d5⟩ := hAt.below hbw hbl
            have HRk : Hid (Fm wr.heap.size wr (fkd t.ks j) ea ka) := Lib.hid ⟨hRe.step hbw, hRk.step hbw⟩
            have hstep := chFL_step hlt (d + 1) kk
            rw [HV.out] at hstep
            have hu := fkd_sz hlt
            have hd2 : d + 1 + (n : Int) ≤ 1000000000 := by omega
            clear hc hAt hRe hRk
            generalize fkd t.ks j = u at *
            have HC := Lib.hid (HIH.out u (by omega) (by omega) ea ec ka kc (d + 1) kk wr HRk.out (by omega) hd2)
            obtain ⟨y, hy⟩ : ∃ y, chF u (d + 1) kk = y := ⟨_, rfl⟩
            rw [hy] at hstep HC
            clear hy hu
            obtain ⟨e2, k2⟩ := y
            by_cases he : e2 = 0
            · subst he
              have X2 : Hid (chFL (t.ks.drop (j + 1)) (d + 1) k2 = R) := Lib.hid (by rw [hstep]; rfl)
              have HC2 : Hid (Calls Try.prog 33 #[fV u ea ec ka kc, .int .i64 (d + 1), .int .i64 kk] wr fun e w' => e = .returned (.tuple #[.int .i64 0, .int .i64 k2]) ∧ Below wr.heap.size wr w') := Lib.hid (HC.out.mono (by rintro e w' ⟨a, rfl, h1, h2⟩; rw [h1 rfl]; exact ⟨rfl, h2⟩))
              clear hstep HC
              go_wp2_with (go_at_call 33; (with_reducible refine HC2.out.mono ?_); rintro e w3 ⟨rfl, hb3⟩; have HB3 := Lib.hid (hb.trans (hb3.mono hb.size)); clear hb3)
              go_roundw
              case rel => exact ⟨j + 1, k2, by omega, by go_num, rfl, rfl, X2, HB3.out⟩
              case measure => simp [intOf]; try omega
            · have X2 : Hid (R = (e2, k2)) := Lib.hid (by rw [hstep, if_neg he])
              have he1 : (e2 == 0) = false := by simp [he]
              have he2 : (e2 != 0) = true := by simp [he]
              have HC2 : Hid (Calls Try.prog 33 #[fV u ea ec ka kc, .int .i64 (d + 1), .int .i64 kk] wr fun e w' => ∃ a : Int, e = .returned (.tuple #[.int .i64 e2, .int .i64 a]) ∧ Below wr.heap.size wr w') := Lib.hid (HC.out.mono (by rintro e w' ⟨a, rfl, h1, h2⟩; exact ⟨a, rfl, h2⟩))
              have HE := Lib.hid he
              clear hstep he HC
              go_wp2_with (go_at_call 33; (with_reducible refine HC2.out.mono ?_); rintro e w3 ⟨a3, rfl, hb3⟩; have HB3 := Lib.hid (hb.trans (hb3.mono hb.size)); clear hb3)
              go_ret2
              exact ⟨a3, by rw [X2.out]; rfl, (fun h => by rw [X2.out] at h; exact absurd h HE.out), (HX.out _ HB3.out).2.1⟩
          · have l1 : ¬ (j : Int) < (t.ks.length : Int) := by omega
            obtain rfl : j = t.ks.length := by omega
            have X2 : Hid (R = (0, kk)) := Lib.hid (by have := HV.out; rw [List.drop_length] at this; exact this.symm)
            go_wp2
            go_ret2
            exact ⟨kk, by rw [X2.out]; rfl, (fun _ => by rw [X2.out]), hbw⟩
    · have X : Hid (R = (p, (wrap64 (k + 1)))) := Lib.hid (by rw [← hRR, if_pos hp0, if_neg hp0])
      have he1 : (p == 0) = false := by simp [hp0]
      have he2 : (p != 0) = true := by simp [hp0]
      have HE := Lib.hid hp0
      clear hRR hp0
      go_enter Try.func33, Try.ntmps33
      go_wp2_with (go_at_call 58; (with_reducible refine HP.out.mono ?_); rintro e w1 ⟨rfl, hb1⟩; have HB1 := Lib.hid hb1; clear hb1)
      go_ret2
      exact ⟨k, by rw [X.out]; rfl, (fun h => by rw [X.out] at h; exact absurd h HE.out), (HX.out _ HB1.out).2.1⟩
def sizF (t : Fx) : Int := if chkF t ≠ 0 then 0 else (chF t 1 0).2
set_option maxHeartbeats 1000000 in
theorem rf_fCheck (t : Fx) (E A : Option Addr) (dd c : Nat) (w : World) (hs : t.sz ≤ 100000000) (hR : Fm w.heap.size w t E A) : Calls Try.prog 10 #[fV t E dd A c] w fun e w' => e = .returned (.int .i64 (chkF t)) ∧ Below w.heap.size w w' := by
  have HAL : Hid (∀ o, Below w.heap.size w (w.alloc o)) := Lib.hid (fun o => bal _ _)
  have HC : Hid (Calls Try.prog 33 #[fV t E dd A c, .int .i64 1, .int .i64 0] (w.alloc (.cells (fC t E dd A c) 27)) fun e w' => ∃ a : Int, e = .returned (.tuple #[.int .i64 (chkF t), .int .i64 a]) ∧ Below (w.alloc (.cells (fC t E dd A c) 27)).heap.size (w.alloc (.cells (fC t E dd A c) 27)) w') := Lib.hid ((rf_walk t.sz t (Nat.le_refl _) hs E dd A c 1 0 _ (hR.step (bal _ _)) (by omega) (by omega)).mono (by rintro e w' ⟨a, rfl, _, h⟩; exact ⟨a, rfl, h⟩))
  obtain ⟨p0, p1, p2, p3, p4, p5⟩ := fal t E A dd c w
  generalize chkF t = R at *
  clear hR
  go_enter Try.func10, Try.ntmps10
  go_wp2_with (go_at_call 33; (with_reducible refine HC.out.mono ?_); rintro e w1 ⟨a, rfl, hb1⟩; have HB1 := Lib.hid hb1; clear hb1)
  go_ret
  exact ⟨rfl, bt (HAL.out _) HB1.out⟩
set_option maxHeartbeats 1000000 in
theorem rf_fSize (t : Fx) (E A : Option Addr) (dd c : Nat) (w : World) (hs : t.sz ≤ 100000000) (hR : Fm w.heap.size w t E A) : Calls Try.prog 15 #[fV t E dd A c] w fun e w' => e = .returned (.int .i64 (sizF t)) ∧ Below w.heap.size w w' := by
  have HAL : Hid (∀ o, Below w.heap.size w (w.alloc o)) := Lib.hid (fun o => bal _ _)
  have hW := rf_walk t.sz t (Nat.le_refl _) hs E dd A c 1 0 _ (hR.step (bal w (.cells (fC t E dd A c) 27))) (by omega) (by omega)
  obtain ⟨p0, p1, p2, p3, p4, p5⟩ := fal t E A dd c w
  clear hR
  by_cases hc : chkF t = 0
  · have HC : Hid (Calls Try.prog 33 #[fV t E dd A c, .int .i64 1, .int .i64 0] (w.alloc (.cells (fC t E dd A c) 27)) fun e w' => e = .returned (.tuple #[.int .i64 0, .int .i64 (chF t 1 0).2]) ∧ Below (w.alloc (.cells (fC t E dd A c) 27)).heap.size (w.alloc (.cells (fC t E dd A c) 27)) w') := Lib.hid (hW.mono (by
      have hc2 : (chF t 1 0).1 = 0 := hc
      rintro e w' ⟨a, rfl, h1, h⟩
      rw [h1 hc2, hc2]
      exact ⟨rfl, h⟩))
    have X : Hid (sizF t = (chF t 1 0).2) := Lib.hid (by unfold sizF; rw [if_neg (by simpa using hc)])
    generalize (chF t 1 0).2 = R at *
    clear hW hc
    go_enter Try.func15, Try.ntmps15
    go_wp2_with (go_at_call 33; (with_reducible refine HC.out.mono ?_); rintro e w1 ⟨rfl, hb1⟩; have HB1 := Lib.hid hb1; clear hb1)
    go_ret
    exact ⟨by rw [X.out]; rfl, bt (HAL.out _) HB1.out⟩
  · have HC : Hid (Calls Try.prog 33 #[fV t E dd A c, .int .i64 1, .int .i64 0] (w.alloc (.cells (fC t E dd A c) 27)) fun e w' => ∃ a : Int, e = .returned (.tuple #[.int .i64 (chkF t), .int .i64 a]) ∧ Below (w.alloc (.cells (fC t E dd A c) 27)).heap.size (w.alloc (.cells (fC t E dd A c) 27)) w') := Lib.hid (hW.mono (by rintro e w' ⟨a, rfl, _, h⟩; exact ⟨a, rfl, h⟩))
    have X : Hid (sizF t = 0) := Lib.hid (by unfold sizF; rw [if_pos hc])
    generalize chkF t = z at *
    have hz : (z != 0) = true := by simp [hc]
    clear hW hc
    go_enter Try.func15, Try.ntmps15
    go_wp2_with (go_at_call 33; (with_reducible refine HC.out.mono ?_); rintro e w1 ⟨a, rfl, hb1⟩; have HB1 := Lib.hid hb1; clear hb1)
    go_ret
    exact ⟨by rw [X.out]; rfl, bt (HAL.out _) HB1.out⟩
end Go.Proofs.Ytnjkphopklbogaa
