/- Plan: the schedule as a list; layer 42 (sched). -/
import Derived.Test.YtjohdkcgodaeiaaS0
namespace Go.Proofs.Ytjohdkcgodaeiaa
open Go.RowKit

def setT (rows : List Rw) (k : Nat) : List Int := setL (pr rows k)
def planR (rows : List Rw) (o : List Int) : List (Int × List Int) :=
  planT (setT rows) o rows.length (List.range rows.length) (cntP rows rows.length) (fun _ => false) (chs o (setL (allL rows rows.length)) false)
theorem info31 : (Try.prog.info? 31).map (fun i => (i.zero, i.size, i.bytes)) = some (some (.agg #[.int .i64 0, .slice none 0 0]), 2, 32) := by kernel_rfl
theorem allL_bound (rows : List Rw) (h : ∀ j, j < rows.length → (pr rows j).length ≤ 100) : ∀ k, k ≤ rows.length → (allL rows k).length ≤ 100 * k := by
  intro k
  induction k with
  | zero => intro _; simp [allL]
  | succ k ih =>
    intro hk
    rw [allL_succ (by omega), List.length_append]
    have h1 := ih (by omega)
    have h2 : (rw_ rows k).2.2.length ≤ 100 := h k (by omega)
    omega
def PlanP (w : World) (L : List (Int × List Int)) (e : Ending) (w' : World) : Prop := ∃ (A : Option Addr) (c : Nat) (T : List St), e = .returned (.slice A T.length c) ∧ StP w' A T ∧ T.map stK = L ∧ Below w.heap.size w w'
theorem pick_best (g : Nat) (m : Nat) (c0 : Cd) (cs : List Cd) (C : List Cd) (w : World) (hC : C = c0 :: cs) (hm : m = cs.length + 1) (h : Blk w g 50 (cdRow C)) (hl : m ≤ 1000000) :
    Calls Try.prog 21 #[.slice (some ⟨g, 0, none⟩) m m, .func (.func 23) #[] #[]] w fun e w' => e = .returned (cdV (bst c0 cs)) ∧ Below w.heap.size w w' := by
  subst hm hC
  exact p_best g c0 cs w h (by omega)
theorem cells_list (w : World) (t : TypeId) (l : List Value) : ∀ (j : Nat) (u : Value), l[j]? = some u → (w.alloc (.cells l.toArray t)).cell? ((⟨w.heap.size, 0, none⟩ : Addr).add j) = some u := fun j u h => by
  have ha : (⟨w.heap.size, 0, none⟩ : Addr).add j = ⟨w.heap.size, j, none⟩ := by unfold Addr.add; split <;> simp_all
  rw [ha, cell_of_row _ _ j l.toArray t (0, 0) (heap_alloc_new w _)]
  simpa using h
theorem field50 (p a f : Int) (w : World) : (Instr.field 50 (.agg #[.int .i64 p, .int .i64 a, .int .i64 f]) 0).run Try.prog w = .ok (.int .i64 p) w := by kernel_rfl
theorem ri_kp {w w' : World} {B : Nat} {A : Option Addr} {l : List Int} (h : RI w w.heap.size A l) (hf : Fr B A) (k : Kp (fun b => B ≤ b) w w') : RI w' w'.heap.size A l := fun hl => by
  obtain ⟨b, off, e, hb, hc⟩ := h hl
  have hB : B ≤ b := hf _ e
  exact ⟨b, off, e, Nat.lt_of_lt_of_le hb k.1, fun i hi => (cell_at (k.2 b hB hb)).trans (hc i hi)⟩
theorem plan_mid {t : TypeId} {w w7 : World} {Z B : Nat} {v : Value} {T : List St} {K : Kc} {S : List Rw} {o : List Int} {R : List Nat} {n : Nat} {F : Int → Int} {G : Int → Bool} {x : Obj} {A7 : Option Addr} {Y : List Int}
    (hT : OwnT t w B v T) (hC : Ch w Z K S o R n F G) (hz : B ≤ w.heap.size) (hb : Below (w.alloc x).heap.size (w.alloc x) w7) (hR : RI w7 w7.heap.size A7 Y) (hF : Fr (w.alloc x).heap.size A7) :
    OwnT t w7 B v T ∧ Ch w7 Z K S o R n F G ∧ (0 < Y.length → ∃ b off, A7 = some ⟨b, off, none⟩ ∧ B ≤ b ∧ b < w7.heap.size ∧ v.ownBlock ≠ some b ∧ ∀ j, j < Y.length → w7.cell? ⟨b, off + j, none⟩ = some (.int .i64 (li Y j))) ∧ B ≤ w7.heap.size ∧ Below w.heap.size w w7 := by
  have hsz : (w.alloc x).heap.size = w.heap.size + 1 := by simp
  have hal : Below w.heap.size w (w.alloc x) := (Below.refl _ _).alloc (Nat.le_refl _) _
  have hbb : Below w.heap.size w w7 := hal.trans (hb.mono (by omega))
  refine ⟨hT.kp (Kp.below hbb _), hC.below hbb, fun hl => ?_, Nat.le_trans hz hbb.size, hbb⟩
  obtain ⟨b, off, e, hlt, hc⟩ := hR hl
  have hB : (w.alloc x).heap.size ≤ b := hF _ e
  exact ⟨b, off, e, by omega, hlt, fun e2 => by have := (hT.lt b e2).2; omega, hc⟩
/-- Union of two slices that have just been put into a row. -/
theorem union_two (A1 A2 : Option Addr) (c1 c2 : Nat) (a b : List Int) (w : World) (ha : RI w w.heap.size A1 a) (hb : RI w w.heap.size A2 b) (h1 : A1 = none → c1 = 0) (h2 : A2 = none → c2 = 0) (hl : a.length + b.length ≤ 100000) :
    Calls Try.prog 20 #[.slice (some ⟨w.heap.size, 0, none⟩) 2 2] (w.alloc (.cells #[.slice A1 a.length c1, .slice A2 b.length c2] 23)) (GivesF (w.alloc (.cells #[.slice A1 a.length c1, .slice A2 b.length c2] 23)) (setL (a ++ b))) := by
  have hB : Blk (w.alloc (.cells #[.slice A1 a.length c1, .slice A2 b.length c2] 23)) w.heap.size 23 #[.slice A1 a.length c1, .slice A2 b.length c2] := Blk.new _ _ _
  have hbel : Below w.heap.size w (w.alloc (.cells #[.slice A1 a.length c1, .slice A2 b.length c2] 23)) := (Below.refl _ _).alloc (Nat.le_refl _) _
  have hr1 := ha.step hbel
  have hr2 := hb.step hbel
  have hlt := hB.lt
  generalize w.alloc (.cells #[.slice A1 a.length c1, .slice A2 b.length c2] 23) = W at *
  have hRR : RR W W.heap.size (some ⟨w.heap.size, 0, none⟩) [(A1, c1, a), (A2, c2, b)] := by
    refine ⟨fun _ => ⟨w.heap.size, 0, rfl, hlt, fun i hi => ?_⟩, fun i hi => ?_⟩
    · have hi2 : i < 2 := hi
      obtain rfl | rfl : i = 0 ∨ i = 1 := by omega
      · exact hB.cell 0
      · exact hB.cell 1
    · have hi2 : i < 2 := hi
      obtain rfl | rfl : i = 0 ∨ i = 1 := by omega
      · exact ⟨hr1, h1⟩
      · exact ⟨hr2, h2⟩
  have hall : allL [(A1, c1, a), (A2, c2, b)] 2 = a ++ b := by unfold allL; simp
  have h := vset_Union (some ⟨w.heap.size, 0, none⟩) 2 [(A1, c1, a), (A2, c2, b)] W hRR (by show 2 ≤ 1000000; decide) (by show (allL [(A1, c1, a), (A2, c2, b)] 2).length ≤ _; rw [hall, List.length_append]; omega)
  have e : allL [(A1, c1, a), (A2, c2, b)] [(A1, c1, a), (A2, c2, b)].length = a ++ b := hall
  rw [e] at h
  exact h
set_option maxRecDepth 100000 in
set_option maxHeartbeats 8000000 in
theorem p_Plan (A AO : Option Addr) (ca co : Nat) (rows : List Rw) (o : List Int) (w : World) (hP : RR w w.heap.size A rows) (hO : RI w w.heap.size AO o)
    (hr : rows.length ≤ 1000) (hlo : o.length ≤ 1000) (hlp : ∀ j, j < rows.length → (pr rows j).length ≤ 100) (hv : ∀ j, j < rows.length → ∀ v ∈ pr rows j, In64 v) (hvo : ∀ v ∈ o, In64 v) :
    Calls Try.prog 8 #[.slice A rows.length ca, .slice AO o.length co] w (PlanP w (planR rows o)) := by
  obtain ⟨i0, hi0, hz0, hz1, hz2⟩ := info_parts info31
  have HP := Lib.hid hP
  have HO := Lib.hid hO
  have HV := Lib.hid hv
  have HLP := Lib.hid hlp
  have hab := allL_bound rows hlp rows.length (Nat.le_refl _)
  have HNC := Lib.hid (p_newChoice A AO ca co rows o w hP hO hr hlo hlp hv hvo)
  obtain ⟨PL, hPL⟩ : ∃ L, planR rows o = L := ⟨_, rfl⟩
  rw [hPL]
  unfold planR at hPL
  obtain ⟨X, hX⟩ : ∃ X, chs o (setL (allL rows rows.length)) false = X := ⟨_, rfl⟩
  rw [hX] at hPL
  have HPL := Lib.hid hPL
  have hXl : X.length ≤ 1000 := by
    rw [← hX]; unfold chs
    have h1 := set_le (o.filter fun v => decide (v ∈ setL (allL rows rows.length)) == false)
    have h2 := List.length_filter_le (fun v => decide (v ∈ setL (allL rows rows.length)) == false) o
    omega
  have HU : Hid (∀ w', Below w.heap.size w w' → Calls Try.prog 20 #[.slice A rows.length ca] w' (GivesF w' (setL (allL rows rows.length)))) := Lib.hid (fun w' hb => vset_Union A ca rows w' (HP.out.step hb) (by omega) (by omega))
  have hsu := set_le (allL rows rows.length)
  have HL : Hid (∀ w' AU cu, Below w.heap.size w w' → RI w' w'.heap.size AU (setL (allL rows rows.length)) → Calls Try.prog 19 #[.slice AO o.length co, .slice AU (setL (allL rows rows.length)).length cu] w' (GivesF w' X)) := Lib.hid (fun w' AU cu hb hru => by
    rw [← hX]
    exact vset_Less AO AU co cu o _ w' (HO.out.step hb) hru (by omega) (by omega))
  have HSI : Hid (∀ k, Inc (setT rows k)) := Lib.hid (fun k => set_inc _)
  have HSV : Hid (∀ k, k < rows.length → ∀ v ∈ setT rows k, In64 v) := Lib.hid (fun k hk v hv2 => HV.out k hk v ((set_mem _ _).1 hv2))
  have HSL : Hid (∀ k, k < rows.length → (setT rows k).length ≤ 100) := Lib.hid (fun k hk => Nat.le_trans (set_le _) (HLP.out k hk))
  obtain ⟨u, hu⟩ : ∃ u, (setL (allL rows rows.length)).length = u := ⟨_, rfl⟩
  rw [hu] at HL hsu
  clear hP hO hlp hv hvo hPL hX
  go_enter Try.func8, Try.ntmps8
  go_upto_region 2 with (go_at_call 18; refine HNC.out.mono ?_; rintro e w1 ⟨K, S, n0, rfl, hch, hset, hn0, hb1⟩; have HCH := Lib.hid hch; have HSET := Lib.hid hset; have HB1 := Lib.hid hb1; clear hch hset hb1)
  go_upto_region 4 with (first
    | (go_at_call 19; refine (HL.out _ _ _ HB2.out HRU.out).mono ?_; rintro e w3 ⟨AX, cx, rfl, hRX, hnX, hFX, hb3⟩; have HRX := Lib.hid hRX; have HNX := Lib.hid hnX; have HFX := Lib.hid hFX; have HB23 := Lib.hid hb3; clear hRX hnX hFX hb3)
    | (go_at_call 20; refine (HU.out _ HB1.out).mono ?_; rintro e w2 ⟨AU, cu, he, hRU, hnU, hFU, hb2⟩; rw [hu] at he; subst he; have HRU := Lib.hid hRU; have HB12 := Lib.hid hb2; have HB2 := Lib.hid (HB1.out.trans (hb2.mono HB1.out.size)); clear hRU hnU hFU hb2))
  have hzz1 : w.heap.size ≤ w1.heap.size := HB1.out.size
  have hz3 : w1.heap.size ≤ w3.heap.size := Nat.le_trans HB12.out.size HB23.out.size
  have HB3 := Lib.hid (HB2.out.trans (HB23.out.mono HB2.out.size))
  have HCH3 := Lib.hid ((HCH.out.below HB12.out).below HB23.out)
  have HKL : Hid (0 < rows.length → K.c < w1.heap.size ∧ K.mo < w1.heap.size ∧ K.ml < w1.heap.size ∧ K.ms < w1.heap.size ∧ K.rb < w1.heap.size) := Lib.hid (fun hp => by
    obtain ⟨l1, l2, l3, l4⟩ := HCH.out.lts
    refine ⟨l1, l2, l3, l4, ?_⟩
    rcases HCH.out.rest with ⟨_, h0⟩ | ⟨_, _, _, _, hpre⟩
    · have e : rows.length = 0 := by simpa using h0
      omega
    · exact hpre.lt)
  have HRQ3 := Lib.hid ((HCH.out.sets.below_self.kp (Kp.below HB12.out _)).kp (Kp.below HB23.out _))
  have HKE : Hid ({ K with rv := K.rv } = K) := Lib.hid rfl
  go_loopg [6, 7] (rows.length + 1) (fun g fv lv wr => ∃ (rv : Value) (R : List Nat) (F : Int → Int) (G : Int → Bool) (n : Nat) (fr : List Int) (Af : Option Addr) (cf : Nat) (T : List St), fv = .slice Af fr.length cf ∧ R.length < g ∧ T.length + R.length = rows.length ∧
    Hid (Ch wr w.heap.size { K with rv := rv } S o R n F G ∧ R.Nodup ∧ (∀ k ∈ R, k < rows.length) ∧ n ≤ 110000 + 200 * T.length ∧ (∀ v, -((T.length : Nat) : Int) ≤ F v ∧ F v ≤ 1000)) ∧ Hid (OwnT 31 wr w1.heap.size lv T) ∧ Hid (RI wr wr.heap.size Af fr ∧ Fr w1.heap.size Af ∧ (Af = none → cf = 0)) ∧ fr.length ≤ 1000 ∧ Hid (T.map stK ++ planT (setT rows) o R.length R F G fr = PL) ∧ Hid (RQ (fun b => K.Q b ∧ b < w1.heap.size) wr K.SA S) ∧ Below w.heap.size w wr ∧ w1.heap.size ≤ wr.heap.size)
  case atStart =>
    refine ⟨K.rv, List.range rows.length, _, _, n0, X, AX, cx, [], rfl, by rw [List.length_range]; omega, by rw [List.length_range]; simp, Lib.hid ⟨HCH3.out, List.nodup_range, fun k hk => List.mem_range.1 hk, by omega, fun v => by have := cntP_le rows rows.length v; simp; omega⟩, Lib.hid (OwnT.nil _ _ _), Lib.hid ⟨HRX.out, fun a e => Nat.le_trans HB12.out.size (HFX.out a e), HNX.out⟩, hXl, Lib.hid (by rw [List.length_range]; exact HPL.out), HRQ3, HB3.out, hz3⟩
  case round =>
    obtain ⟨rv, R, F, G, n, fr, Af, cf, T, rfl, hRg, hTR, HX, HT, HFR, hfl, HPLN, HRQ, hb, hzw⟩ := hrel
    obtain ⟨hch, hnd, hRl, hn, hFb⟩ := HX.out
    obtain ⟨_, _, c2, _, _⟩ := hch.cells
    obtain ⟨Ar, cr, hrv, _⟩ := hch.rest.form
    have hrv2 : rv = .slice Ar R.length cr := hrv
    subst hrv2
    have hcl := hch.blk.lt
    by_cases hR0 : R.length = 0
    · have g0 : ¬ (0 : Int) < (R.length : Int) := by omega
      have hp := HPLN.out
      rw [hR0] at hp
      have HPE : Hid (T.map stK = PL) := Lib.hid (by rw [← hp]; simp [planT])
      obtain ⟨AT, cT, hlv, hst⟩ := HT.out.st
      subst hlv
      have HST := Lib.hid hst
      have HBB := Lib.hid hb
      have hTl : T.length = rows.length := by omega
      clear hp hst hch hnd hRl hn hFb HX hb hTl
      go_wp2
      go_ret
      exact ⟨AT, cT, T, rfl, HST.out, HPE.out, HBB.out⟩
    · have g0 : (0 : Int) < (R.length : Int) := by omega
      have hrp : 0 < rows.length := by omega
      have hSl := HSET.out.1
      have HTe : Hid (∀ k ∈ R, (rw_ S k).2.2 = setT rows k) := Lib.hid (fun k hk => HSET.out.2 k (hRl k hk))
      obtain ⟨hat, hbk⟩ := at_ok (T := setT rows) (o := o) (F := F) (G := G) (R := R) (by omega)
      have hplan := HPLN.out
      obtain ⟨m, hm⟩ : ∃ m, R.length = m + 1 := ⟨R.length - 1, by omega⟩
      rw [hm, planT, if_neg hR0, ← setL_sL] at hplan
      obtain ⟨at', hat'⟩ : ∃ a, atOf (setT rows) o F G R = a := ⟨_, rfl⟩
      rw [hat'] at hat hbk hplan
      have hkm := getD_mem hat
      have hkl := hRl _ hkm
      have hTk := HTe.out _ hkm
      have HTAKE : Hid (∀ w', Ch w' w.heap.size { K with rv := .slice Ar R.length cr } S o R n F G → Calls Try.prog 24 #[.pointer (some ⟨K.c, 0, none⟩), .int .i64 ((R.getD at' 0 : Nat) : Int)] w' fun e w'' => ∃ v rv, e = .returned v ∧ Own w'' w'.heap.size v ((setT rows (R.getD at' 0)).filter (tkP o F)) ∧ Ch w'' w.heap.size { K with rv := rv } S o (R.eraseIdx at') (n + 2 * (setT rows (R.getD at' 0)).length) (tkF (setT rows (R.getD at' 0)) F) (tkG (setT rows (R.getD at' 0)) G) ∧ Below w.heap.size w' w'' ∧ Kp (fun b => K.Q b ∧ b < w'.heap.size) w' w'') := Lib.hid (fun w' hc => by
        have h := p_take w' w.heap.size { K with rv := .slice Ar R.length cr } S o R n F G hc at' hat hnd (by omega) (by omega) (by omega) (by rw [hTk]; have := HSL.out _ hkl; omega) (by rw [hTk]; exact HSV.out _ hkl) (by rw [hTk]; exact HSI.out _) (fun v => by have := hFb v; omega) (by omega)
        rw [hTk] at h
        exact h)
      have hnd2 : (R.eraseIdx at').Nodup := hnd.eraseIdx at'
      have hRl2 : ∀ k ∈ R.eraseIdx at', k < rows.length := fun k hk => hRl k (List.mem_of_mem_eraseIdx hk)
      have hel : (R.eraseIdx at').length = m := by rw [List.length_eraseIdx, if_pos hat]; omega
      have hFb2 : ∀ v, -((T.length + 1 : Nat) : Int) ≤ tkF (setT rows (R.getD at' 0)) F v ∧ tkF (setT rows (R.getD at' 0)) F v ≤ 1000 := fun v => by
        have := hFb v
        unfold tkF; split <;> omega
      have HCAND := fun w' hc => p_candidates w' w.heap.size { K with rv := .slice Ar R.length cr } S o R n F G hc (fun k hk => by rw [hSl]; exact hRl k hk) (by omega) (fun k hk => by rw [HSET.out.2 k (by omega)]; have h2 := HSL.out k (by omega); unfold setT at h2; omega) (fun k hk v hv => by rw [HSET.out.2 k (by omega)] at hv; exact HSV.out k (by omega) v hv) (by omega)
      have HCAND2 := Lib.hid HCAND
      have HBEST : Hid (∀ g w', Blk w' g 50 (cdRow (cdL S o F G R)) → Calls Try.prog 21 #[.slice (some ⟨g, 0, none⟩) R.length R.length, .func (.func 23) #[] #[]] w' fun e w'' => ∃ a f, e = .returned (.agg #[.int .i64 ((R.getD at' 0 : Nat) : Int), .int .i64 a, .int .i64 f]) ∧ Below w'.heap.size w' w'') := Lib.hid (fun g w' hB => by
        have hC := cdL_T (o := o) (F := F) (G := G) HTe.out
        obtain ⟨c0, cs, hcs⟩ : ∃ c0 cs, R.map (cdT (setT rows) o F G) = c0 :: cs := by
          cases e : R.map (cdT (setT rows) o F G) with
          | nil => exact absurd (((List.length_map (cdT (setT rows) o F G)).symm.trans (congrArg List.length e) : R.length = 0)) hR0
          | cons c cs => exact ⟨c, cs, rfl⟩
        have hlen : R.length = cs.length + 1 := by have := congrArg List.length hcs; simpa using this
        refine (pick_best g R.length c0 cs _ w' (hC.trans hcs) hlen hB (by omega)).mono fun e w'' ⟨he, hb'⟩ => ⟨(bst c0 cs).a, (bst c0 cs).f, ?_, hb'⟩
        rw [he, hbk]
        unfold cdV bestOf
        rw [hcs])
      have hdl := List.length_filter_le (tkP o F) (setT rows (R.getD at' 0))
      have hsl := HSL.out _ hkl
      obtain ⟨k, hk⟩ : ∃ k, R.getD at' 0 = k := ⟨_, rfl⟩
      rw [hk] at HTAKE HBEST hplan hdl hsl hFb2
      obtain ⟨D, hD⟩ : ∃ D, (setT rows k).filter (tkP o F) = D := ⟨_, rfl⟩
      rw [hD] at HTAKE hplan hdl
      have HPLN2 := Lib.hid hplan
      have HFB2 := Lib.hid hFb2
      have HND2 := Lib.hid hnd2
      have HRL2 := Lib.hid hRl2
      have HEL := Lib.hid hel
      have HCHW := Lib.hid hch
      have HNB := Lib.hid hn
      have HBW := Lib.hid hb
      have HKQ : Hid (∀ b, w1.heap.size ≤ b → K.Q b) := Lib.hid (fun b hb' => by
        obtain ⟨q1, q2, q3, q4, q5⟩ := HKL.out hrp
        exact ⟨by omega, by omega, by omega, by omega, by omega⟩)
      have HMR := Lib.hid hm
      clear hch hnd hRl hn hFb hat hbk hkm hkl hTk hplan hFb2 hnd2 hRl2 hel hk hD hat' HCAND HX hb hm HPLN
      have f50 := field50
      go_upto_region 6 with (first
        | (go_at_call 21; refine (HBEST.out g4 w4 HBK.out).mono ?_; rintro e w5 ⟨ba, bf, rfl, hb5⟩; have HB45 := Lib.hid hb5; clear hb5)
        | (go_at_call 22; refine (HCAND2.out wr HCHW.out).mono ?_; rintro e w4 ⟨g4, rfl, hbk4, hb4⟩; have HBK := Lib.hid hbk4; have HB04 := Lib.hid hb4; clear hbk4 hb4))
      have HB05 := Lib.hid (HB04.out.trans (HB45.out.mono HB04.out.size))
      have HCH5 := Lib.hid (HCHW.out.below HB05.out)
      have hz5 : w1.heap.size ≤ w5.heap.size := Nat.le_trans hzw HB05.out.size
      have HT5 := Lib.hid (HT.out.kp (Kp.below HB05.out _))
      have HFR5 := Lib.hid (HFR.out.1.step HB05.out)
      have HPS : Hid (T.map stK ++ ((k : Int), setL (fr ++ D)) :: planT (setT rows) o m (R.eraseIdx at') (tkF (setT rows k) F) (tkG (setT rows k) G) [] = PL) := HPLN2
      obtain ⟨Y, hY⟩ : ∃ Y, setL (fr ++ D) = Y := ⟨_, rfl⟩
      have HUN : Hid (∀ w' A2 c2, RI w' w'.heap.size Af fr → RI w' w'.heap.size A2 D → (A2 = none → c2 = 0) → Calls Try.prog 20 #[.slice (some ⟨w'.heap.size, 0, none⟩) 2 2] (w'.alloc (.cells #[.slice Af fr.length cf, .slice A2 D.length c2] 23)) (GivesF (w'.alloc (.cells #[.slice Af fr.length cf, .slice A2 D.length c2] 23)) Y)) := Lib.hid (fun w' A2 c2 h1 h2 h3 => by
        rw [← hY]
        exact union_two Af A2 cf c2 fr D w' h1 h2 HFR.out.2.2 h3 (by omega))
      rw [hY] at HPS
      clear hY HPLN2
      obtain ⟨ly, hly⟩ : ∃ n, Y.length = n := ⟨_, rfl⟩
      go_upto_region 7 with (first
        | (at_builtin; have _ := HR7; refine wpList_append_own_at _ rfl _ _ 26 rfl w1.heap.size 31 i0 _ 2 32 Try.underlying26 hi0 hz0 hz1 hz2 rfl (by decide) u7 T.length (stC T) rfl (World.ownsRow.alloc HT7.out.row _) ⟨w7.heap.size, 0, none⟩ 1 1 [.int .i64 (k : Int), .slice A7 ly c7] rfl rfl (cells_list w7 31 [.int .i64 (k : Int), .slice A7 ly c7]) (by simp [Value.oneCell']) (max_ok (by omega)) (by omega) (by simp; omega) ?_; intro v8 w8 hO8 hg8 _ hat8; obtain ⟨A8, c8, rfl⟩ := owns_slice hO8; obtain ⟨q1, q2⟩ := HT7.out.app (s := ((k : Int), A7, c7, Y)) hz7 (by unfold rcell; rw [hly]; exact hO8) hg8 hat8 HN7.out; have HQ1 := Lib.hid q1; have HQ2 := Lib.hid q2; have HQB := Lib.hid (hg8); clear hO8 hg8 hat8 q1 q2)
        | (go_at_call 20; refine (HUN.out w6 Ad cd HFR6.out HRD.out HND.out).mono ?_; rintro e w7 ⟨A7, c7, he, hR7, hN7, hF7, hb7⟩; rw [hly] at he; subst he; obtain ⟨r1, r2, r3, r4, r5⟩ := plan_mid HT6.out HC6.out hz6 hb7 hR7 hF7; have HT7 := Lib.hid r1; have HC7 := Lib.hid r2; have HN7 := Lib.hid r3; have hz7 := r4; have HB67 := Lib.hid r5; have HR7 := Lib.hid hR7; clear hR7 hN7 hF7 hb7 r1 r2 r3 r4 r5)
        | (go_at_call 24; refine (HTAKE.out w5 HCH5.out).mono ?_; rintro e w6 ⟨v6, rv6, rfl, hO6, hC6, hb6, hk6⟩; obtain ⟨Ad, cd, rfl, hRD, hND⟩ := hO6.form; have HRD := Lib.hid hRD; have HND := Lib.hid hND; have HC6 := Lib.hid hC6; have HB56 := Lib.hid hb6; have HK56 := Lib.hid hk6; have HT6 := Lib.hid (HT5.out.kp ⟨hk6.1, fun b hb hl => hk6.2 b ⟨HKQ.out b hb, hl⟩ hl⟩); have HFR6 := Lib.hid (ri_kp HFR5.out HFR.out.2.1 ⟨hk6.1, fun b hb hl => hk6.2 b ⟨HKQ.out b hb, hl⟩ hl⟩); have hz6 : w1.heap.size ≤ w6.heap.size := Nat.le_trans hz5 hk6.1; clear hO6 hC6 hb6 hk6 hRD hND))
      have HR8 := Lib.hid (((HRQ.out.kp (Kp.below HB05.out _)).kp ⟨HK56.out.1, fun b hb hl => HK56.out.2 b ⟨hb.1, Nat.lt_of_lt_of_le hb.2 hz5⟩ hl⟩).kp (Kp.below HB67.out _))
      have HC8 := Lib.hid (HC7.out.kpB (HKL.out hrp) HR8.out ⟨HQ2.out.size, fun b hb hl => HQ2.out.block b hb⟩)
      have HB8 := Lib.hid ((((HBW.out.trans (HB05.out.mono HBW.out.size)).trans HB56.out).trans (HB67.out.mono (Nat.le_trans hzz1 hz6))).trans (HQ2.out.mono hzz1))
      have hz8 : w1.heap.size ≤ w8.heap.size := Nat.le_trans hz7 HQ2.out.size
      have HTL : Hid ((T ++ [((k : Int), A7, c7, Y)]).length = T.length + 1) := Lib.hid (by rw [List.length_append]; rfl)
      have HN8 : Hid (n + 2 * (setT rows k).length ≤ 110000 + 200 * (T.length + 1)) := Lib.hid (by have := HNB.out; omega)
      go_wp2
      go_roundg (m + 1)
      case measure => have := HMR.out; omega
      case rel =>
        refine ⟨rv6, R.eraseIdx at', tkF (setT rows k) F, tkG (setT rows k) G, n + 2 * (setT rows k).length, [], none, 0, T ++ [((k : Int), A7, c7, Y)], rfl, by rw [HEL.out]; omega, by rw [HTL.out, HEL.out]; have := HMR.out; omega, Lib.hid ⟨HC8.out.1, HND2.out, HRL2.out, by rw [HTL.out]; exact HN8.out, fun v => by rw [HTL.out]; exact HFB2.out v⟩, HQ1, Lib.hid ⟨RI.nil, (show Fr w1.heap.size none from fun a (e : none = some a) => nomatch e), fun _ => rfl⟩, by simp, Lib.hid ?_, Lib.hid HC8.out.2, HB8.out, hz8⟩
        rw [HEL.out, List.map_append, List.append_assoc]
        exact HPS.out
end Go.Proofs.Ytjohdkcgodaeiaa
