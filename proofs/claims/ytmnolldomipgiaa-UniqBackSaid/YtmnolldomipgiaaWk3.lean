/- UniqBack, over the contracts. -/
import Derived.Test.YtmnolldomipgiaaFnF
namespace Go.Proofs.Ytmnolldomipgiaa
open Go.RowKit Go.Shelf Go.Maps

/-- The program's table alone, behind k steps. -/
structure RQ (Z : Nat) (w0 w : World) (T b k : Nat) (M : List En) : Prop where
  own : Own10 Z w0 w T b k M
  srt : Srt M
  len : M.length ≤ k
theorem RQ.do_ {Z : Nat} {w0 w : World} {T b k : Nat} {M : List En} (h : RQ Z w0 w T b k M) (x : Act) (hx : x.ok) (hk : k ≤ 100) :
    Calls Try.prog 9 #[.pointer (some ⟨T, 0, none⟩), .agg (actR x)] (w.alloc (.cells (actR x) 28)) fun e w3 => e = .returned (.int .i64 (doE M x).2) ∧ RQ Z w0 w3 T b (k + 1) (doE M x).1 := by
  have hb : Below w.heap.size w (w.alloc (.cells (actR x) 28)) := (Below.refl _ _).alloc (Nat.le_refl _) _
  have hl := h.len
  refine (p_do (h.own.below hb) h.srt x hx (by omega)).mono ?_
  rintro e w3 ⟨rfl, h4, h5⟩
  exact ⟨rfl, h4, srt_do h.srt, by have := len_do (M := M) (x := x); omega⟩
def cutE (M : List En) (lo hi : Int) : List En := match idxE M lo hi with
  | some q => M.take q ++ M.drop (q + 1)
  | none => M
section
variable {Z : Nat} {w0 w : World} {T b n : Nat} {M : List En}
theorem srt_cutE (h : Srt M) (lo hi : Int) : Srt (cutE M lo hi) := by
  unfold cutE
  split
  · exact List.Pairwise.sublist (cut_sub M _) h
  · exact h
theorem len_cutE (M : List En) (lo hi : Int) : (cutE M lo hi).length ≤ M.length := by
  unfold cutE
  split
  · exact (cut_sub M _).length_le
  · exact Nat.le_refl _
theorem look_cutE (hu : UT w b n M) (hs : Srt M) (lo hi : Int) : lookE (cutE M lo hi) lo hi = none := by
  rw [look_idx]
  have : idxE (cutE M lo hi) lo hi = none := by
    apply idxE_no
    intro e he
    unfold cutE at he
    cases hix : idxE M lo hi with
    | none =>
      rw [hix] at he
      exact idxE_none hix e he
    | some q =>
      rw [hix] at he
      obtain ⟨q1, q2, q3⟩ := idxE_some hix
      obtain ⟨h1, h2⟩ := (mem_cut hs q1 e).1 he
      cases hk : keyB lo hi e with
      | false => rfl
      | true =>
        unfold keyB at hk
        simp at hk
        exact absurd (hu.one h2 (ea_mem q1) (hk.1.trans q2.symm) (hk.2.trans q3.symm)) h1
  rw [this]
  rfl
theorem look_in (hu : UT w b n M) {lo hi id : Int} (h : (⟨lo, hi, id⟩ : En) ∈ M) : lookE M lo hi = some id := by
  cases q : lookE M lo hi with
  | none => exact absurd h (lookE_none q id)
  | some id' =>
    have := hu.one (lookE_some q) h rfl rfl
    injection this with _ _ h3
    rw [h3]
theorem p_Cut_any (h : Own10 Z w0 w T b n M) (hs : Srt M) {lo hi : Int} (h1 : In64 lo) (h2 : In64 hi) :
    Calls Try.prog 16 #[.pointer (some ⟨T, 0, none⟩), .int .i64 lo, .int .i64 hi] w fun e w' => ∃ r, e = .returned (.int .i64 r) ∧ Own10 Z w0 w' T b n (cutE M lo hi) := by
  cases hix : idxE M lo hi with
  | none =>
    have e : cutE M lo hi = M := by unfold cutE; rw [hix]
    rw [e]
    refine (e_Cut_no h.t h1 h2 (by rw [look_idx, hix]; rfl)).mono ?_
    rintro e w' ⟨rfl, rfl⟩
    exact ⟨5, rfl, h⟩
  | some q =>
    obtain ⟨q1, q2, q3⟩ := idxE_some hix
    have e : cutE M lo hi = M.take q ++ M.drop (q + 1) := by unfold cutE; rw [hix]
    rw [e]
    have hc := e_Cut h.t (ea_mem q1) (mem_cut hs q1) (len_cut q1)
    rw [q2, q3] at hc
    refine hc.mono ?_
    rintro e w' ⟨rfl, h3, h4⟩
    exact ⟨0, rfl, h.step h3 h4⟩
theorem not_mem_of_look {lo hi id : Int} (hno : lookE M lo hi = none) : (⟨lo, hi, id⟩ : En) ∉ M := lookE_none hno id
theorem p_Put2 (h : Own10 Z w0 w T b n M) {lo hi id : Int} (hx : (⟨lo, hi, id⟩ : En).ok) (hno : lookE M lo hi = none) (hn : n ≤ 1000000) {A : Option Addr} {L : List En} (hA : RowE w.heap.size w A L) :
    Calls Try.prog 15 #[.pointer (some ⟨T, 0, none⟩), .int .i64 lo, .int .i64 hi, .int .i64 id] w fun e w' => e = .returned (.int .i64 0) ∧ Own10 Z w0 w' T b (n + 1) (insE M ⟨lo, hi, id⟩) ∧ RowE w'.heap.size w' A L := by
  have hni := not_mem_of_look (id := id) hno
  exact (e_Put h.t hx hno (by unfold maxLen; omega) (mem_insE hni) (len_insE hni)).mono (fun e w' ⟨h1, h2, h3⟩ => ⟨h1, h.step h2 h3, hA.turn h.t.u h3 (Nat.le_refl _)⟩)
theorem p_Cut2 {lo hi id : Int} (h : Own10 Z w0 w T b n (insE M ⟨lo, hi, id⟩)) (hno : lookE M lo hi = none) {A : Option Addr} {L : List En} (hA : RowE w.heap.size w A L) :
    Calls Try.prog 16 #[.pointer (some ⟨T, 0, none⟩), .int .i64 lo, .int .i64 hi] w fun e w' => e = .returned (.int .i64 0) ∧ Own10 Z w0 w' T b n M ∧ RowE w'.heap.size w' A L := by
  have hni := not_mem_of_look (id := id) hno
  have hm := mem_insE hni
  exact (e_Cut h.t ((hm _).2 (.inl rfl)) (M' := M) (fun e => ⟨fun he => ⟨fun q => hni (q ▸ he), (hm e).2 (.inr he)⟩, fun ⟨h1, h2⟩ => ((hm e).1 h2).resolve_left h1⟩) (len_insE hni).symm).mono (fun e w' ⟨h1, h2, h3⟩ => ⟨h1, h.step h2 h3, hA.turn h.t.u h3 (Nat.le_refl _)⟩)
theorem p_told3 (h : Own10 Z w0 w T b n M) (hs : Srt M) (hM : M.length ≤ 100) :
    Calls Try.prog 13 #[.pointer (some ⟨T, 0, none⟩), .int .i64 100] w fun e w' => ∃ A c, e = .returned (.tuple #[.slice A M.length c, .bool true]) ∧ RowE w'.heap.size w' A M ∧ Below w.heap.size w w' := by
  have htk : M.take (100 : Int).toNat = M := List.take_of_length_le hM
  have hT := p_told h hs (by omega) 100
  rw [htk] at hT
  exact hT.mono (fun e w' ⟨A, c, h1, h2, _, h4⟩ => ⟨A, c, h1, h2, h4⟩)
end
set_option maxRecDepth 100000 in
set_option maxHeartbeats 2000000 in
theorem back_long (A : Option Addr) (n ca : Nat) (i j d : Int) (w : World) (hn : 60 < n) : Calls Try.prog 5 #[.slice A n ca, .int .i64 i, .int .i64 j, .int .i64 d] w fun e w' => e = .returned (.bool true) ∧ Below w.heap.size w w' := by
  have g1 : (60 : Int) < (n : Int) := by omega
  have HN := Lib.hid (p_New w)
  have HL := Lib.hid l_lives
  clear hn
  go_enter Try.func5, Try.ntmps5
  go_wp2_with (first
    | (go_at_call 6; refine HN.out.mono ?_; rintro e w1 ⟨T, b, rfl, ho⟩; have HO := Lib.hid ho; clear ho)
    | (go_at_call 7; refine (HL.out _).mono ?_; rintro e w2 ⟨rfl, hb⟩; have HB := Lib.hid (HO.out.below hb).bel; clear hb))
  go_ret
  exact ⟨rfl, HB.out⟩
set_option maxRecDepth 100000 in
set_option maxHeartbeats 2000000 in
theorem back_good (A : Option Addr) (acts : List Act) (ca : Nat) (lo hi id : Int) (w : World) (hA : RowA w.heap.size w A acts) (hO : OkA acts) (hl : acts.length ≤ 60) (hlo : In64 lo) (hhi : In64 hi) (hid : In64 id) :
    Calls Try.prog 5 #[.slice A acts.length ca, .int .i64 lo, .int .i64 hi, .int .i64 id] w fun e w' => e = .returned (.bool true) ∧ Below w.heap.size w w' := by
  have g1 : ¬ (60 : Int) < (acts.length : Int) := by omega
  have HN := Lib.hid (p_New w)
  have HLi := Lib.hid l_lives
  have HA := Lib.hid hA
  have HOk := Lib.hid hO
  have HI := Lib.hid hlo
  have HJ := Lib.hid hhi
  have HX := Lib.hid hid
  have HLe := Lib.hid hl
  clear hA hO hl hlo hhi hid
  go_enter Try.func5, Try.ntmps5
  go_upto_region 5 with (go_at_call 6; refine HN.out.mono ?_; rintro e w1 ⟨T, b, rfl, ho⟩; have HO := Lib.hid ho; clear ho)
  go_loopw [36] (fun i wr => ∃ (k : Nat) (M : List En), k ≤ acts.length ∧ i = .int .i64 (k : Int) ∧ Hid (RQ w.heap.size w wr T b k M)) (fun i _ => acts.length - (intOf i).toNat)
  case atStart => exact ⟨0, [], Nat.zero_le _, rfl, ⟨HO.out, List.Pairwise.nil, Nat.zero_le _⟩⟩
  case round =>
    obtain ⟨k, M, hk, rfl, HS⟩ := hrel
    have hbd := HLe.out
    clear HO
    by_cases hlt : k < acts.length
    · have l1 : (k : Int) < (acts.length : Int) := by omega
      have l0 : (0 : Int) ≤ (k : Int) := by omega
      obtain ⟨g, f, rfl, hg, hc⟩ := HA.out (by omega)
      obtain ⟨n0, n1, n2, n3⟩ := hc k hlt
      have hbel := HS.out.own.bel
      have y0 := (hbel.cell (p := ⟨g, f + k * 4, none⟩) hg).trans n0
      have y1 := (hbel.cell (p := ⟨g, f + k * 4 + 1, none⟩) hg).trans n1
      have y2 := (hbel.cell (p := ⟨g, f + k * 4 + 2, none⟩) hg).trans n2
      have y3 := (hbel.cell (p := ⟨g, f + k * 4 + 3, none⟩) hg).trans n3
      have HD := Lib.hid (HS.out.do_ (aa acts k) (HOk.out k hlt) (by omega))
      clear hc n0 n1 n2 n3 hbel HA
      generalize aa acts k = x at *
      generalize (doE M x).1 = M' at *
      generalize (doE M x).2 = why at *
      unfold actR at *
      go_wp2_with (go_at_call 9; refine HD.out.mono ?_; rintro e w3 ⟨rfl, hrs⟩; have HRS := Lib.hid hrs; clear hrs HD y0 y1 y2 y3)
      go_roundw
      case rel => exact ⟨k + 1, M', by omega, by go_num, HRS⟩
      case measure => simp [intOf]; try omega
    · have l1 : ¬ (k : Int) < (acts.length : Int) := by omega
      obtain rfl : k = acts.length := by omega
      have hml := HS.out.len
      have hcl := len_cutE M lo hi
      have hss := srt_cutE HS.out.srt lo hi
      have hno := look_cutE HS.out.own.t.u HS.out.srt lo hi
      have hni := lookE_none hno id
      have HC := Lib.hid (p_Cut_any HS.out.own HS.out.srt HI.out HJ.out)
      have hll := len_insE hni
      have hmi := (mem_insE hni (⟨lo, hi, id⟩ : En)).2 (.inl rfl)
      generalize cutE M lo hi = N at *
      have HT : Hid (∀ n w1, Own10 w.heap.size w w1 T b n N → Calls Try.prog 13 #[.pointer (some ⟨T, 0, none⟩), .int .i64 100] w1 fun e w' => ∃ A c, e = .returned (.tuple #[.slice A N.length c, .bool true]) ∧ RowE w'.heap.size w' A N ∧ Below w1.heap.size w1 w') := Lib.hid (fun n w1 h => p_told3 h hss (by omega))
      have HP : Hid (∀ w2 A, Own10 w.heap.size w w2 T b acts.length N → RowE w2.heap.size w2 A N → Calls Try.prog 15 #[.pointer (some ⟨T, 0, none⟩), .int .i64 lo, .int .i64 hi, .int .i64 id] w2 fun e w' => e = .returned (.int .i64 0) ∧ Own10 w.heap.size w w' T b (acts.length + 1) (insE N ⟨lo, hi, id⟩) ∧ RowE w'.heap.size w' A N) := Lib.hid (fun w2 A h hr => p_Put2 h ⟨HI.out, HJ.out, HX.out⟩ hno (by omega) hr)
      have HF : Hid (∀ w3 A, Own10 w.heap.size w w3 T b (acts.length + 1) (insE N ⟨lo, hi, id⟩) → RowE w3.heap.size w3 A N →
          (Calls Try.prog 11 #[.pointer (some ⟨T, 0, none⟩), .int .i64 lo, .int .i64 hi] w3 fun e w' => e = .returned (.tuple #[.int .i64 id, .bool true]) ∧ w3 = w') ∧
          (Calls Try.prog 12 #[.pointer (some ⟨T, 0, none⟩)] w3 fun e w' => e = .returned (.int .i64 ((N.length : Int) + 1)) ∧ w3 = w') ∧
          (Calls Try.prog 16 #[.pointer (some ⟨T, 0, none⟩), .int .i64 lo, .int .i64 hi] w3 fun e w' => e = .returned (.int .i64 0) ∧ Own10 w.heap.size w w' T b (acts.length + 1) N ∧ RowE w'.heap.size w' A N)) := Lib.hid (fun w3 A h hr => ⟨by
            have := p_Find h HI.out HJ.out
            rw [look_in h.t.u hmi] at this
            exact this, by
            have := p_Len h
            rw [hll] at this
            exact this, p_Cut2 h hno hr⟩)
      have HSame : Hid (∀ (w5 w6 : World) (A4 A5 : Option Addr) (c4 c5 : Nat), Own10 w.heap.size w w5 T b (acts.length + 1) N → RowE w5.heap.size w5 A4 N → RowE w5.heap.size w5 A5 N → Below w5.heap.size w5 w6 → Calls Try.prog 14 #[.slice A4 N.length c4, .slice A5 N.length c5] w6 fun en w' => en = .returned (.bool true) ∧ Below w.heap.size w w') := Lib.hid (fun w5 w6 A4 A5 c4 c5 ho h4 h5 hb6 => (l_same (h4.on hb6) (h5.on hb6) (by omega)).mono (fun e w' ⟨h1, h2⟩ => ⟨h1, ((ho.below hb6).below h2).bel⟩))
      have hNn : N.length ≤ 100 := by omega
      clear hss hno hni hll hmi hml hcl HS hk
      obtain ⟨n, hn⟩ : ∃ n, N.length = n := ⟨_, rfl⟩
      rw [hn] at HT HF HSame hNn
      have gn : (((n : Int) + 1) == ((n : Int) + 1)) = true := by simp
      have gi : (id == id) = true := by simp
      have gw : IntKind.i64.wrap ((n : Int) + 1) = (n : Int) + 1 := by rw [IntKind.wrap_i64]; omega
      clear hn
      go_wp2_with (first
        | (go_at_call 16; refine HC.out.mono ?_; rintro e w1 ⟨r, rfl, ho⟩; have HO1 := Lib.hid ho; have HT1 := Lib.hid (HT.out _ _ ho); clear ho HC)
        | (go_at_call 13; refine HT1.out.mono ?_; rintro e w2 ⟨A4, c4, rfl, hr, hb2⟩; have HP2 := Lib.hid (HP.out _ _ (HO1.out.below hb2) hr); clear hr hb2 HT1 HO1 HP)
        | (go_at_call 15; refine HP2.out.mono ?_; rintro e w3 ⟨rfl, ho, hr⟩; have HF3 := Lib.hid (HF.out _ _ ho hr); clear ho hr HP2 HF)
        | (go_at_call 11; refine HF3.out.1.mono ?_; rintro e w9 ⟨rfl, rfl⟩)
        | (go_at_call 12; refine HF3.out.2.1.mono ?_; rintro e w9 ⟨rfl, rfl⟩)
        | (go_at_call 16; refine HF3.out.2.2.mono ?_; rintro e w4 ⟨rfl, ho, hr⟩; have HO4 := Lib.hid ho; have HR4 := Lib.hid hr; have HT4 := Lib.hid (HT.out _ _ ho); clear ho hr HF3 HT)
        | (go_at_call 13; refine HT4.out.mono ?_; rintro e w5 ⟨A5, c5, rfl, hr, hb5⟩; have HSm := Lib.hid (fun w6 hb6 => HSame.out _ w6 A4 A5 c4 c5 (HO4.out.below hb5) (HR4.out.on hb5) hr hb6); clear hr hb5 HT4 HO4 HR4 HSame)
        | (go_at_call 7; refine (HLi.out _).mono ?_; rintro e w6 ⟨rfl, hb6⟩; have HSx := Lib.hid (HSm.out _ hb6); clear hb6 HSm)
        | (go_at_call 14; refine HSx.out.mono ?_; rintro e w7 ⟨rfl, hb7⟩; have HB7 := Lib.hid hb7; clear hb7 HSx))
      go_ret
      exact ⟨rfl, HB7.out⟩
theorem uniqBack_walk (A : Option Addr) (ca : Nat) (acts : List Act) (i j d : Int) (w : World) (hA : RowA w.heap.size w A acts) (hO : OkA acts) (_x0 : acts.length ≤ ca) (_y0 : ca ≤ maxLen) (hi : (Lit.int .i64 i).wf = true) (hj : (Lit.int .i64 j).wf = true) (hd : (Lit.int .i64 d).wf = true) :
    Calls Try.prog 5 #[.slice A acts.length ca, .int .i64 i, .int .i64 j, .int .i64 d] w fun e w' => e = .returned (.bool true) ∧ Below w.heap.size w w' := by
  by_cases hl : acts.length ≤ 60
  · exact back_good A acts ca i j d w hA hO hl (in64_of hi) (in64_of hj) (in64_of hd)
  · exact back_long A _ ca i j d w (by omega)
end Go.Proofs.Ytmnolldomipgiaa
