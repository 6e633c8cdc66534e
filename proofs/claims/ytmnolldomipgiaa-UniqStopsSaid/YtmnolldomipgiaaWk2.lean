/- UniqStops, over the contracts. -/
import Derived.Test.YtmnolldomipgiaaFnF
namespace Go.Proofs.Ytmnolldomipgiaa
open Go.RowKit Go.Shelf Go.Maps

section
variable {Z : Nat} {w0 w : World} {T b n : Nat} {M : List En}
theorem p_Cut (h : Own10 Z w0 w T b n M) {x : En} (hx : x ∈ M) {M' : List En} (hM : ∀ e, e ∈ M' ↔ e ≠ x ∧ e ∈ M) (hl : M'.length + 1 = M.length) :
    Calls Try.prog 16 #[.pointer (some ⟨T, 0, none⟩), .int .i64 x.lo, .int .i64 x.hi] w fun e w' => e = .returned (.int .i64 0) ∧ Own10 Z w0 w' T b n M' :=
  (e_Cut h.t hx hM hl).mono (fun _e _w' ⟨h1, h2, h3⟩ => ⟨h1, h.step h2 h3⟩)
theorem p_Cut_no (h : Own10 Z w0 w T b n M) {lo hi : Int} (h1 : In64 lo) (h2 : In64 hi) (hs : lookE M lo hi = none) : Calls Try.prog 16 #[.pointer (some ⟨T, 0, none⟩), .int .i64 lo, .int .i64 hi] w fun e w' => e = .returned (.int .i64 5) ∧ w = w' := e_Cut_no h.t h1 h2 hs
end
/-- The program's table alone, behind k steps. -/
structure RP (Z : Nat) (w0 w : World) (T b k : Nat) (M : List En) : Prop where
  own : Own10 Z w0 w T b k M
  srt : Srt M
  len : M.length ≤ k
theorem RP.do_ {Z : Nat} {w0 w : World} {T b k : Nat} {M : List En} (h : RP Z w0 w T b k M) (x : Act) (hx : x.ok) (hk : k ≤ 100) :
    Calls Try.prog 9 #[.pointer (some ⟨T, 0, none⟩), .agg (actR x)] (w.alloc (.cells (actR x) 28)) fun e w3 => e = .returned (.int .i64 (doE M x).2) ∧ RP Z w0 w3 T b (k + 1) (doE M x).1 := by
  have hb : Below w.heap.size w (w.alloc (.cells (actR x) 28)) := (Below.refl _ _).alloc (Nat.le_refl _) _
  have hl := h.len
  refine (p_do (h.own.below hb) h.srt x hx (by omega)).mono ?_
  rintro e w3 ⟨rfl, h4, h5⟩
  exact ⟨rfl, h4, srt_do h.srt, by have := len_do (M := M) (x := x); omega⟩
set_option maxRecDepth 100000 in
set_option maxHeartbeats 2000000 in
theorem stops_bad (A : Option Addr) (n ca : Nat) (m : Int) (w : World) (hn : 60 < n ∨ m < 1 ∨ 60 < m) : Calls Try.prog 4 #[.slice A n ca, .int .i64 m] w fun e w' => e = .returned (.bool true) ∧ Below w.heap.size w w' := by
  have HN := Lib.hid p_New
  have HL := Lib.hid l_lives
  have H11 := Lib.hid (n_Find 0 1)
  have H12 := Lib.hid n_Len
  have H15 := Lib.hid (n_Put 0 1 2)
  have H16 := Lib.hid (n_Cut 0 1)
  have H17 := Lib.hid n_Clear
  by_cases c1 : 60 < n
  · have g1 : (60 : Int) < (n : Int) := by omega
    clear hn c1
    go_enter Try.func4, Try.ntmps4
    go_wp2_with (first
      | (go_at_call 11; refine (H11.out _).mono ?_; rintro e w2 ⟨rfl, rfl⟩)
      | (go_at_call 12; refine (H12.out _).mono ?_; rintro e w2 ⟨rfl, rfl⟩)
      | (go_at_call 15; refine (H15.out _).mono ?_; rintro e w2 ⟨rfl, rfl⟩)
      | (go_at_call 16; refine (H16.out _).mono ?_; rintro e w2 ⟨rfl, rfl⟩)
      | (go_at_call 17; refine (H17.out _).mono ?_; rintro e w2 ⟨rfl, rfl⟩)
      | (go_at_call 6; refine (HN.out _).mono ?_; rintro e w1 ⟨T, b, rfl, ho⟩; have HO := Lib.hid ho; clear ho)
      | (go_at_call 7; refine (HL.out _).mono ?_; rintro e w2 ⟨rfl, hb⟩; have HB := Lib.hid (HO.out.below hb).bel; clear hb))
    go_ret
    exact ⟨rfl, HB.out⟩
  have g1 : ¬ (60 : Int) < (n : Int) := by omega
  by_cases c2 : m < 1
  · clear hn c1
    go_enter Try.func4, Try.ntmps4
    go_wp2_with (first
      | (go_at_call 11; refine (H11.out _).mono ?_; rintro e w2 ⟨rfl, rfl⟩)
      | (go_at_call 12; refine (H12.out _).mono ?_; rintro e w2 ⟨rfl, rfl⟩)
      | (go_at_call 15; refine (H15.out _).mono ?_; rintro e w2 ⟨rfl, rfl⟩)
      | (go_at_call 16; refine (H16.out _).mono ?_; rintro e w2 ⟨rfl, rfl⟩)
      | (go_at_call 17; refine (H17.out _).mono ?_; rintro e w2 ⟨rfl, rfl⟩)
      | (go_at_call 6; refine (HN.out _).mono ?_; rintro e w1 ⟨T, b, rfl, ho⟩; have HO := Lib.hid ho; clear ho)
      | (go_at_call 7; refine (HL.out _).mono ?_; rintro e w2 ⟨rfl, hb⟩; have HB := Lib.hid (HO.out.below hb).bel; clear hb))
    go_ret
    exact ⟨rfl, HB.out⟩
  have c3 : 60 < m := by omega
  clear hn c1
  go_enter Try.func4, Try.ntmps4
  go_wp2_with (first
    | (go_at_call 11; refine (H11.out _).mono ?_; rintro e w2 ⟨rfl, rfl⟩)
    | (go_at_call 12; refine (H12.out _).mono ?_; rintro e w2 ⟨rfl, rfl⟩)
    | (go_at_call 15; refine (H15.out _).mono ?_; rintro e w2 ⟨rfl, rfl⟩)
    | (go_at_call 16; refine (H16.out _).mono ?_; rintro e w2 ⟨rfl, rfl⟩)
    | (go_at_call 17; refine (H17.out _).mono ?_; rintro e w2 ⟨rfl, rfl⟩)
    | (go_at_call 6; refine (HN.out _).mono ?_; rintro e w1 ⟨T, b, rfl, ho⟩; have HO := Lib.hid ho; clear ho)
    | (go_at_call 7; refine (HL.out _).mono ?_; rintro e w2 ⟨rfl, hb⟩; have HB := Lib.hid (HO.out.below hb).bel; clear hb))
  go_ret
  exact ⟨rfl, HB.out⟩
theorem p_told2 {Z : Nat} {w0 w : World} {T b n : Nat} {M : List En} (h : Own10 Z w0 w T b n M) (hs : Srt M) (hM : M.length ≤ 1000000) (most : Int) :
    Calls Try.prog 13 #[.pointer (some ⟨T, 0, none⟩), .int .i64 most] w fun e w' => ∃ A c, e = .returned (.tuple #[.slice A (M.take most.toNat).length c, .bool true]) ∧ RowE w'.heap.size w' A (M.take most.toNat) ∧ (M.take most.toNat).length ≤ c ∧ Below w.heap.size w w' ∧ ((A = none ∧ c = 0) ∨ ∃ g, A = some ⟨g, 0, none⟩) :=
  (l_told (p := some ⟨T, 0, none⟩) (M := M) (fun W hW => e_entries (h.t.below hW) hs hM) hM most).mono (fun e w' ⟨v, h1, h2, h3⟩ => by
    have hv := h2.2
    obtain ⟨A, c, rfl, h4, h5⟩ := h2.row
    refine ⟨A, c, h1, h4, h5, h3, ?_⟩
    rcases hv with ⟨he, _⟩ | ⟨g, cap, cur, he, _⟩
    · injection he with a1 a2 a3
      exact .inl ⟨a1, a3⟩
    · injection he with a1 a2 a3
      exact .inr ⟨g, a1⟩)
theorem RowE.take {B : Nat} {w : World} {A : Option Addr} {l : List En} (h : RowE B w A l) (k : Nat) : RowE B w A (l.take k) := fun hp => by
  have hl : (l.take k).length = min k l.length := List.length_take
  obtain ⟨g, f, e, h1, h2⟩ := h (by omega)
  refine ⟨g, f, e, h1, fun q hq => ?_⟩
  have e1 : ea (l.take k) q = ea l q := by unfold ea; simp [List.getD, show q < k by omega]
  rw [e1]
  exact h2 q (by omega)
set_option maxRecDepth 100000 in
set_option maxHeartbeats 2000000 in
theorem stops_good (A : Option Addr) (acts : List Act) (ca : Nat) (m : Int) (w : World) (hA : RowA w.heap.size w A acts) (hO : OkA acts) (hl : acts.length ≤ 60) (hm1 : 1 ≤ m) (hm2 : m ≤ 60) :
    Calls Try.prog 4 #[.slice A acts.length ca, .int .i64 m] w fun e w' => e = .returned (.bool true) ∧ Below w.heap.size w w' := by
  have g1 : ¬ (60 : Int) < (acts.length : Int) := by omega
  have g2 : ¬ m < 1 := by omega
  have g3 : ¬ 60 < m := by omega
  have HN := Lib.hid (p_New w)
  have HLi := Lib.hid l_lives
  have HA := Lib.hid hA
  have HOk := Lib.hid hO
  have HLe := Lib.hid hl
  have HM1 := Lib.hid hm1
  have HM2 := Lib.hid hm2
  have H11 := Lib.hid (n_Find 0 1)
  have H12 := Lib.hid n_Len
  have H15 := Lib.hid (n_Put 0 1 2)
  have H16 := Lib.hid (n_Cut 0 1)
  have H17 := Lib.hid n_Clear
  clear hA hO hl hm1 hm2
  go_enter Try.func4, Try.ntmps4
  go_upto_region 10 with (first
      | (go_at_call 11; refine (H11.out _).mono ?_; rintro e w2 ⟨rfl, rfl⟩)
      | (go_at_call 12; refine (H12.out _).mono ?_; rintro e w2 ⟨rfl, rfl⟩)
      | (go_at_call 15; refine (H15.out _).mono ?_; rintro e w2 ⟨rfl, rfl⟩)
      | (go_at_call 16; refine (H16.out _).mono ?_; rintro e w2 ⟨rfl, rfl⟩)
      | (go_at_call 17; refine (H17.out _).mono ?_; rintro e w2 ⟨rfl, rfl⟩)
      | (go_at_call 6; refine HN.out.mono ?_; rintro e w1 ⟨T, b, rfl, ho⟩; have HO := Lib.hid ho; clear ho))
  clear H11 H12 H15 H16 H17
  go_loopw [65] (fun i wr => ∃ (k : Nat) (M : List En), k ≤ acts.length ∧ i = .int .i64 (k : Int) ∧ Hid (RP w.heap.size w wr T b k M)) (fun i _ => acts.length - (intOf i).toNat)
  case atStart => exact ⟨0, [], Nat.zero_le _, rfl, ⟨HO.out, List.Pairwise.nil, Nat.zero_le _⟩⟩
  case round =>
    obtain ⟨k, M, hk, rfl, HS⟩ := hrel
    have hbd := HLe.out
    clear HO
    by_cases hlt : k < acts.length
    · have l1 : (k : Int) < (acts.length : Int) := by omega
      have l0 : (0 : Int) ≤ (k : Int) := by omega
      obtain ⟨g, f, rfl, hg, hc⟩ := HA.out (by omega)
      obtain ⟨n0, n1, n2, n3⟩ := hc k hlt
      have hbel := HS.out.own.bel
      have y0 := (hbel.cell (p := ⟨g, f + k * 4, none⟩) hg).trans n0
      have y1 := (hbel.cell (p := ⟨g, f + k * 4 + 1, none⟩) hg).trans n1
      have y2 := (hbel.cell (p := ⟨g, f + k * 4 + 2, none⟩) hg).trans n2
      have y3 := (hbel.cell (p := ⟨g, f + k * 4 + 3, none⟩) hg).trans n3
      have HD := Lib.hid (HS.out.do_ (aa acts k) (HOk.out k hlt) (by omega))
      clear hc n0 n1 n2 n3 hbel HA
      generalize aa acts k = x at *
      generalize (doE M x).1 = M' at *
      generalize (doE M x).2 = why at *
      unfold actR at *
      go_wp2_with (go_at_call 9; refine HD.out.mono ?_; rintro e w3 ⟨rfl, hrs⟩; have HRS := Lib.hid hrs; clear hrs HD y0 y1 y2 y3)
      go_roundw
      case rel => exact ⟨k + 1, M', by omega, by go_num, HRS⟩
      case measure => simp [intOf]; try omega
    · have l1 : ¬ (k : Int) < (acts.length : Int) := by omega
      obtain rfl : k = acts.length := by omega
      have hml := HS.out.len
      have htk : M.take (100 : Int).toNat = M := List.take_of_length_le (by show M.length ≤ 100; omega)
      have HT := Lib.hid (p_told2 HS.out.own HS.out.srt (by omega) 100)
      rw [htk] at HT
      have HU : Hid (∀ w5, Below wr.heap.size wr w5 → Calls Try.prog 13 #[.pointer (some ⟨T, 0, none⟩), .int .i64 m] w5 fun e w' => ∃ A c, e = .returned (.tuple #[.slice A (M.take m.toNat).length c, .bool true]) ∧ RowE w'.heap.size w' A (M.take m.toNat) ∧ (M.take m.toNat).length ≤ c ∧ Below w5.heap.size w5 w') := Lib.hid (fun w5 hb => p_told (HS.out.own.below hb) HS.out.srt (by omega) m)
      have HSame : Hid (∀ (w5 w6 w7 : World) (A4 A5 : Option Addr) (c4 c5 : Nat), Below wr.heap.size wr w5 → RowE w5.heap.size w5 A4 M → Below w5.heap.size w5 w6 → RowE w6.heap.size w6 A5 (M.take m.toNat) → Below w6.heap.size w6 w7 → Calls Try.prog 14 #[.slice A5 (M.take m.toNat).length c5, .slice A4 (M.take m.toNat).length c4] w7 fun en w' => en = .returned (.bool true) ∧ Below w.heap.size w w') := Lib.hid (fun w5 w6 w7 A4 A5 c4 c5 hb5 h5 hb6 h6 hb7 => by
        have ho := (((HS.out.own.below hb5).below hb6).below hb7)
        have hlt := List.length_take_le m.toNat M
        exact (l_same (h6.on hb7) (((h5.on hb6).on hb7).take m.toNat) (by omega)).mono (fun e w' ⟨h1, h2⟩ => ⟨h1, (ho.below h2).bel⟩))
      have hn1 := HM1.out
      have hlen : ((M.take m.toNat).length : Int) = if m ≤ (M.length : Int) then m else (M.length : Int) := by rw [List.length_take]; split <;> omega
      have hle : (M.take m.toNat).length ≤ M.length := by rw [List.length_take]; omega
      clear htk HS
      generalize hL : M.take m.toNat = L at *
      obtain ⟨nl, hnl⟩ : ∃ nl, L.length = nl := ⟨_, rfl⟩
      obtain ⟨nm, hnm⟩ : ∃ nm, M.length = nm := ⟨_, rfl⟩
      rw [hnl] at HU HSame hlen hle
      rw [hnm] at HT hlen hle hml
      clear hL
      go_upto_region 16 with (first
        | (go_at_call 13; refine HT.out.mono ?_; rintro e w5 ⟨A4, c4, rfl, hr, hcap4, hb5, hform⟩; have HFo := Lib.hid hform; clear hform; have HR5 := Lib.hid hr; have HB5 := Lib.hid hb5; have HU5 := Lib.hid (HU.out _ hb5); clear hr hb5 HT HU)
        | (go_at_call 13; refine HU5.out.mono ?_; rintro e w6 ⟨A5, c5, rfl, hr, hcap5, hb6⟩; have HR6 := Lib.hid hr; have HB6 := Lib.hid hb6; clear hr hb6 HU5))
      have HSm : Hid (∀ w7, Below w6.heap.size w6 w7 → Calls Try.prog 14 #[.slice A5 nl c5, .slice A4 nl c4] w7 fun en w' => en = .returned (.bool true) ∧ Below w.heap.size w w') := Lib.hid (fun w7 hb7 => HSame.out _ _ _ _ _ c4 c5 HB5.out HR5.out HB6.out HR6.out hb7)
      have hcase : (m ≤ (nm : Int) ∧ (nl : Int) = m) ∨ ((nm : Int) < m ∧ nl = nm) := by
        by_cases hq : m ≤ (nm : Int)
        · rw [if_pos hq] at hlen; exact .inl ⟨hq, hlen⟩
        · rw [if_neg hq] at hlen; exact .inr ⟨by omega, by omega⟩
      have hq4 : (nl : Int) ≤ (c4 : Int) := by omega
      have hq0 : (0 : Int) ≤ (nl : Int) := by omega
      have HM1' : Hid ((0 : Int) < m) := Lib.hid (by have := HM1.out; omega)
      clear HSame HB5 HR5 HB6 HR6 hlen hle hcap5 hnl hnm hml hk hbd l1 HM1 HM2 hn1 g1 g2 g3 HOk HLe HA
      have hnm4 : nm ≤ c4 := hcap4
      clear hcap4
      have hmin : min m (nm : Int) = (nl : Int) := by omega
      rcases HFo.out with ⟨rfl, rfl⟩ | ⟨g4, rfl⟩
      · obtain rfl : nl = 0 := by omega
        have hnm0 : nm = 0 := by omega
        subst hnm0
        have hmin0 : min m 0 = 0 := hmin
        clear hcase HFo hq0 hq4 hnm4 hmin
        go_wp2_with (first
          | (go_at_call 7; refine (HLi.out _).mono ?_; rintro e w7 ⟨rfl, hb7⟩; have HSx := Lib.hid (HSm.out _ hb7); clear hb7 HSm)
          | (go_at_call 14; refine HSx.out.mono ?_; rintro e w8 ⟨rfl, hb8⟩; have HB8 := Lib.hid hb8; clear hb8 HSx))
        go_ret
        exact ⟨rfl, HB8.out⟩
      · clear HFo hcase hnm4
        go_wp2_with (first
          | (go_at_call 7; refine (HLi.out _).mono ?_; rintro e w7 ⟨rfl, hb7⟩; have HSx := Lib.hid (HSm.out _ hb7); clear hb7 HSm)
          | (go_at_call 14; refine HSx.out.mono ?_; rintro e w8 ⟨rfl, hb8⟩; have HB8 := Lib.hid hb8; clear hb8 HSx))
        go_ret
        exact ⟨rfl, HB8.out⟩
theorem uniqStops_walk (A : Option Addr) (ca : Nat) (acts : List Act) (m : Int) (w : World) (hA : RowA w.heap.size w A acts) (hO : OkA acts) (_x0 : acts.length ≤ ca) (_y0 : ca ≤ maxLen) (_hm : (Lit.int .i64 m).wf = true) :
    Calls Try.prog 4 #[.slice A acts.length ca, .int .i64 m] w fun e w' => e = .returned (.bool true) ∧ Below w.heap.size w w' := by
  by_cases hb : 60 < acts.length ∨ m < 1 ∨ 60 < m
  · exact stops_bad A _ ca m w hb
  · exact stops_good A acts ca m w hA hO (by omega) (by omega) (by omega)
end Go.Proofs.Ytmnolldomipgiaa
