/- UniqPlays, over the contracts. -/
import Derived.Test.YtmnolldomipgiaaFnF
namespace Go.Proofs.Ytmnolldomipgiaa
open Go.RowKit Go.Shelf Go.Maps

set_option maxRecDepth 100000 in
set_option maxHeartbeats 2000000 in
theorem plays_long (A : Option Addr) (n ca : Nat) (i j : Int) (w : World) (hn : 60 < n) : Calls Try.prog 3 #[.slice A n ca, .int .i64 i, .int .i64 j] w fun e w' => e = .returned (.bool true) ∧ Below w.heap.size w w' := by
  have g1 : (60 : Int) < (n : Int) := by omega
  have HN := Lib.hid (p_New w)
  have HL := Lib.hid l_lives
  clear hn
  go_enter Try.func3, Try.ntmps3
  go_wp2_with (first
    | (go_at_call 6; refine HN.out.mono ?_; rintro e w1 ⟨T, b, rfl, ho⟩; have HO := Lib.hid ho; clear ho)
    | (go_at_call 7; refine (HL.out _).mono ?_; rintro e w2 ⟨rfl, hb⟩; have HB := Lib.hid (HO.out.below hb).bel; clear hb))
  go_ret
  exact ⟨rfl, HB.out⟩
set_option maxRecDepth 100000 in
set_option maxHeartbeats 2000000 in
theorem plays_good (A : Option Addr) (acts : List Act) (ca : Nat) (i j : Int) (w : World) (hA : RowA w.heap.size w A acts) (hO : OkA acts) (hl : acts.length ≤ 60) (hi : In64 i) (hj : In64 j) :
    Calls Try.prog 3 #[.slice A acts.length ca, .int .i64 i, .int .i64 j] w fun e w' => e = .returned (.bool true) ∧ Below w.heap.size w w' := by
  have g1 : ¬ (60 : Int) < (acts.length : Int) := by omega
  have HN := Lib.hid (p_New w)
  have HLi := Lib.hid l_lives
  have HA := Lib.hid hA
  have HOk := Lib.hid hO
  have HI := Lib.hid hi
  have HJ := Lib.hid hj
  have HLe := Lib.hid hl
  clear hA hO hl hi hj
  go_enter Try.func3, Try.ntmps3
  go_upto_region 6 with (go_at_call 6; refine HN.out.mono ?_; rintro e w1 ⟨T, b, rfl, ho⟩; have HO := Lib.hid ho; clear ho)
  go_loopw [8, 33] (fun t i wr => ∃ (k : Nat) (M : List En) (A2 : Option Addr) (c2 : Nat), k ≤ acts.length ∧ i = .int .i64 (k : Int) ∧ t = .slice A2 M.length c2 ∧ Hid (RS w.heap.size w wr T b k M A2 c2)) (fun _ i _ => acts.length - (intOf i).toNat)
  case atStart => exact ⟨0, [], none, 0, Nat.zero_le _, rfl, rfl, ⟨HO.out, List.Pairwise.nil, Nat.zero_le _, RowE.nil, Nat.zero_le _⟩⟩
  case round =>
    obtain ⟨k, M, A2, c2, hk, rfl, rfl, HS⟩ := hrel
    have hbd := HLe.out
    clear HO
    by_cases hlt : k < acts.length
    · have l1 : (k : Int) < (acts.length : Int) := by omega
      have l0 : (0 : Int) ≤ (k : Int) := by omega
      obtain ⟨g, f, rfl, hg, hc⟩ := HA.out (by omega)
      obtain ⟨n0, n1, n2, n3⟩ := hc k hlt
      have hbel := HS.out.own.bel
      have y0 := (hbel.cell (p := ⟨g, f + k * 4, none⟩) hg).trans n0
      have y1 := (hbel.cell (p := ⟨g, f + k * 4 + 1, none⟩) hg).trans n1
      have y2 := (hbel.cell (p := ⟨g, f + k * 4 + 2, none⟩) hg).trans n2
      have y3 := (hbel.cell (p := ⟨g, f + k * 4 + 3, none⟩) hg).trans n3
      have HD := Lib.hid (HS.out.do_ (aa acts k) (HOk.out k hlt) (by omega))
      have HF : Hid (∀ w3 A3 c3, RS w.heap.size w w3 T b (k + 1) (doE M (aa acts k)).1 A3 c3 →
          (Calls Try.prog 10 #[.slice A3 (doE M (aa acts k)).1.length c3, .int .i64 i, .int .i64 j] w3 fun e w' => e = .returned (.int .i64 (idxZ (doE M (aa acts k)).1 i j)) ∧ w3 = w') ∧
          (Calls Try.prog 11 #[.pointer (some ⟨T, 0, none⟩), .int .i64 i, .int .i64 j] w3 fun e w' => e = .returned (.tuple #[.int .i64 ((lookE (doE M (aa acts k)).1 i j).getD 0), .bool (lookE (doE M (aa acts k)).1 i j).isSome]) ∧ w3 = w') ∧
          (Calls Try.prog 12 #[.pointer (some ⟨T, 0, none⟩)] w3 fun e w' => e = .returned (.int .i64 (doE M (aa acts k)).1.length) ∧ w3 = w')) := Lib.hid (fun w3 A3 c3 h =>
            ⟨r_Find _ _ _ _ _ _ h.row (by have := h.len; omega), p_Find h.own HI.out HJ.out, p_Len h.own⟩)
      have hlook := look_idx (doE M (aa acts k)).1 i j
      have hml := len_do (M := M) (x := aa acts k)
      have hmk := HS.out.len
      have hmm : (doE M (aa acts k)).1.length ≤ 100 := by omega
      have HBx := Lib.hid (fun (w3 : World) (A3 : Option Addr) (c3 : Nat) (h : RS w.heap.size w w3 T b (k + 1) (doE M (aa acts k)).1 A3 c3) => h.row)
      clear hc n0 n1 n2 n3 hbel hml hmk HA
      generalize aa acts k = x at *
      generalize (doE M x).1 = M' at *
      generalize (doE M x).2 = why at *
      have gw : (why != why) = false := by simp
      have gl : ((M'.length : Int) != (M'.length : Int)) = false := by simp
      unfold actR at *
      cases hix : idxE M' i j with
      | none =>
        have e1 : idxZ M' i j = -1 := by unfold idxZ; rw [hix]
        have e2 : lookE M' i j = none := by rw [hlook, hix]; rfl
        rw [e1, e2] at HF
        simp only [Option.getD_none, Option.isSome_none] at HF
        clear hlook e1 e2 hix
        go_wp2_with (first
          | (go_at_call 8; refine HD.out.mono ?_; rintro e w2 ⟨A3, c3, rfl, hbk, hcall⟩; have z0 := hbk.cell 0; have z1 := hbk.cell 1; have z2 := hbk.cell 2; have z3 := hbk.cell 3; simp only [List.getElem?_toArray, List.getElem?_cons_zero, List.getElem?_cons_succ] at z0 z1 z2 z3; have HC9 := Lib.hid hcall; clear hbk hcall HD y0 y1 y2 y3)
          | (go_at_call 9; refine HC9.out.mono ?_; rintro e w3 ⟨rfl, hrs⟩; have HRS := Lib.hid hrs; have HF3 := Lib.hid (HF.out _ _ _ hrs); clear hrs HC9 HF z0 z1 z2 z3)
          | (go_at_call 10; refine HF3.out.1.mono ?_; rintro e w4 ⟨rfl, rfl⟩)
          | (go_at_call 11; refine HF3.out.2.1.mono ?_; rintro e w4 ⟨rfl, rfl⟩)
          | (go_at_call 12; refine HF3.out.2.2.mono ?_; rintro e w4 ⟨rfl, rfl⟩))
        go_roundw
        case rel => exact ⟨k + 1, M', _, _, by omega, by go_num, rfl, HRS⟩
        case measure => simp [intOf]; try omega
      | some q =>
        obtain ⟨q1, q2, q3⟩ := idxE_some hix
        have e1 : idxZ M' i j = q := by unfold idxZ; rw [hix]
        have e2 : lookE M' i j = some (ea M' q).id := by rw [hlook, hix]; rfl
        rw [e1, e2] at HF
        simp only [Option.getD_some, Option.isSome_some] at HF
        have HCE : Hid (∀ w3 A3 c3, RS w.heap.size w w3 T b (k + 1) M' A3 c3 → ∃ g f, A3 = some ⟨g, f, none⟩ ∧ w3.cell? ⟨g, f + q * 3 + 2, none⟩ = some (.int .i64 (ea M' q).id)) := Lib.hid (fun w3 A3 c3 h => by
          obtain ⟨g, f, e, _, h2⟩ := h.row (by omega)
          exact ⟨g, f, e, (h2 q q1).2.2⟩)
        have k1 : (q : Int) < (M'.length : Int) := by omega
        have k0 : (0 : Int) ≤ (q : Int) := by omega
        generalize (ea M' q).id = idq at *
        have gi : (idq != idq) = false := by simp
        clear hlook e1 e2 hix q1 q2 q3
        go_wp2_with (first
          | (go_at_call 8; refine HD.out.mono ?_; rintro e w2 ⟨A3, c3, rfl, hbk, hcall⟩; have z0 := hbk.cell 0; have z1 := hbk.cell 1; have z2 := hbk.cell 2; have z3 := hbk.cell 3; simp only [List.getElem?_toArray, List.getElem?_cons_zero, List.getElem?_cons_succ] at z0 z1 z2 z3; have HC9 := Lib.hid hcall; clear hbk hcall HD y0 y1 y2 y3)
          | (go_at_call 9; refine HC9.out.mono ?_; rintro e w3 ⟨rfl, hrs⟩; have HRS := Lib.hid hrs; have HF3 := Lib.hid (HF.out _ _ _ hrs); obtain ⟨gg, ff, rfl, hce⟩ := HCE.out _ _ _ hrs; clear hrs HC9 HF z0 z1 z2 z3 HCE)
          | (go_at_call 10; refine HF3.out.1.mono ?_; rintro e w4 ⟨rfl, rfl⟩)
          | (go_at_call 11; refine HF3.out.2.1.mono ?_; rintro e w4 ⟨rfl, rfl⟩)
          | (go_at_call 12; refine HF3.out.2.2.mono ?_; rintro e w4 ⟨rfl, rfl⟩))
        go_roundw
        case rel => exact ⟨k + 1, M', _, _, by omega, by go_num, rfl, HRS⟩
        case measure => simp [intOf]; try omega
    · have l1 : ¬ (k : Int) < (acts.length : Int) := by omega
      obtain rfl : k = acts.length := by omega
      have hml := HS.out.len
      have htk : M.take (100 : Int).toNat = M := List.take_of_length_le (by show M.length ≤ 100; omega)
      have HT := Lib.hid (p_told HS.out.own HS.out.srt (by omega) 100)
      rw [htk] at HT
      have HSame : Hid (∀ (w5 w6 : World) (A4 : Option Addr) (c4 : Nat), Below wr.heap.size wr w5 → RowE w5.heap.size w5 A4 M → Below w5.heap.size w5 w6 → Calls Try.prog 14 #[.slice A4 M.length c4, .slice A2 M.length c2] w6 fun en w' => en = .returned (.bool true) ∧ Below w.heap.size w w') := Lib.hid (fun w5 w6 A4 c4 hb5 hr hb6 => by
        have h := HS.out
        have ho := ((h.own.below hb5).below hb6)
        exact (l_same (hr.on hb6) ((h.row.on hb5).on hb6) (by omega)).mono (fun e w' ⟨h1, h2⟩ => ⟨h1, (ho.below h2).bel⟩))
      clear htk hml HS
      go_wp2_with (first
        | (go_at_call 13; refine HT.out.mono ?_; rintro e w5 ⟨A4, c4, rfl, hr, _, hb5⟩; have HR5 := Lib.hid hr; have HB5 := Lib.hid hb5; clear hr hb5 HT)
        | (go_at_call 7; refine (HLi.out _).mono ?_; rintro e w6 ⟨rfl, hb6⟩; have HSm := Lib.hid (HSame.out _ _ _ c4 HB5.out HR5.out hb6); clear hb6 HSame)
        | (go_at_call 14; refine HSm.out.mono ?_; rintro e w7 ⟨rfl, hb7⟩; have HB7 := Lib.hid hb7; clear hb7 HSm))
      go_ret
      exact ⟨rfl, HB7.out⟩
theorem uniqPlays_walk (A : Option Addr) (ca : Nat) (acts : List Act) (i j : Int) (w : World) (hA : RowA w.heap.size w A acts) (hO : OkA acts) (_x0 : acts.length ≤ ca) (_y0 : ca ≤ maxLen) (hi : (Lit.int .i64 i).wf = true) (hj : (Lit.int .i64 j).wf = true) :
    Calls Try.prog 3 #[.slice A acts.length ca, .int .i64 i, .int .i64 j] w fun e w' => e = .returned (.bool true) ∧ Below w.heap.size w w' := by
  by_cases hl : acts.length ≤ 60
  · exact plays_good A acts ca i j w hA hO hl (in64_of hi) (in64_of hj)
  · exact plays_long A _ ca i j w (by omega)
end Go.Proofs.Ytmnolldomipgiaa
