/- MemoKeeps, over the contracts. -/
import Derived.Test.YtejmnjgmmjpenaaMath
namespace Go.Proofs.Ytejmnjgmmjpenaa
open Go.RowKit

/-- What the loop of MemoKeeps keeps. -/
structure One (w0 w : World) (S : Nat → Prop) (bm N : Nat) (l : List Act) (k an fn : Nat) (T : Nat → Option Rc) : Prop where
  m : Memo w S bm N an fn T
  bel : Below w0.heap.size w0 w
  ins : InStep l N k T
  ge : ∀ k, S k → w0.heap.size ≤ k
  all : ∀ k, w0.heap.size ≤ k → S k
  an_le : an ≤ k
  fn_le : fn ≤ an
section
variable {w0 w w' : World} {S : Nat → Prop} {bm N : Nat} {l : List Act} {k an fn : Nat} {T T' : Nat → Option Rc}
theorem One.below (h : One w0 w S bm N l k an fn T) (hb : Below w.heap.size w w') : One w0 w' S bm N l k an fn T :=
  ⟨h.m.below hb, h.bel.trans (hb.mono h.bel.size), h.ins, h.ge, h.all, h.an_le, h.fn_le⟩
theorem One.step (h : One w0 w S bm N l k an fn T) {an' fn' : Nat} (hm : Memo w' S bm N an' fn' T') (hf : Frm S w w') (hi : InStep l N (k + 1) T') (ha : an' ≤ k + 1) (hn : fn' ≤ an') : One w0 w' S bm N l (k + 1) an' fn' T' :=
  ⟨hm, h.bel.trans (hf.below2 h.ge h.bel.size), hi, h.ge, h.all, ha, hn⟩
end

set_option maxRecDepth 100000 in
set_option maxHeartbeats 4000000 in
theorem memoKeeps_walk (n : Int) (A : Option Addr) (c : Nat) (l : List Act) (w : World) (_hn : (Lit.int .i64 n).wf = true) (hRA : RA w w.heap.size A l) (hlc : l.length ≤ c) (hcm : c ≤ maxLen) :
    Calls Try.prog 3 #[.int .i64 n, .slice A l.length c] w fun e w' => e = .returned (.bool true) ∧ Below w.heap.size w w' := by
  obtain ⟨S, hS⟩ : ∃ S : Nat → Prop, S = fun k => w.heap.size ≤ k := ⟨_, rfl⟩
  have hge : ∀ k, S k → w.heap.size ≤ k := fun k h => by rw [hS] at h; exact h
  have hal : ∀ k, w.heap.size ≤ k → S k := fun k h => by rw [hS]; exact h
  have hNm := memo_New2 n w S (fun k h1 _ => hal k h1)
  have hH := ref_Held n
  obtain ⟨N, hN⟩ : ∃ N, heldF n = N := ⟨_, rfl⟩
  have hN2 := heldF_bd n
  rw [hN] at hNm hN2 hH
  obtain ⟨hN1, hN2⟩ := hN2
  have HNm := Lib.hid hNm
  have HH := Lib.hid hH
  have HR := Lib.hid hRA
  have HGe := Lib.hid hge
  have HAl := Lib.hid hal
  clear hRA _hn hS hNm hge hal hN hH
  by_cases hlen : 80 < l.length
  · have h1 : (80 : Int) < (l.length : Int) := by omega
    go_enter Try.func3, Try.ntmps3
    go_wp2_with fail
    refine (lives_any _).mono ?_; rintro e w3 ⟨rfl, hb3⟩
    have HB3 := Lib.hid hb3
    clear hb3
    go_wp2
    go_ret
    exact ⟨rfl, HB3.out⟩
  · have h1 : (l.length : Int) ≤ 80 := by omega
    go_enter Try.func3, Try.ntmps3
    go_wp2_with fail
    refine HNm.out.mono ?_; rintro e w1 ⟨rfl, hm1, hb1, hz1⟩
    have hT : One w w1 S (w.heap.size + 1) N l 0 0 0 (fun _ => none) := ⟨hm1, hb1, InStep.zero l N, HGe.out, HAl.out, Nat.le_refl _, Nat.le_refl _⟩
    have HT := Lib.hid hT
    clear hT hm1 hb1 hz1 HNm
    go_wp2_with fail
    go_loopw [6, 7, 8] (fun a f i wr => ∃ k an fn : Nat, k ≤ l.length ∧ a = .int .i64 an ∧ f = .int .i64 fn ∧ i = .int .i64 k ∧ ∃ T, One w wr S (w.heap.size + 1) N l k an fn T) (fun _ _ i _ => l.length - (intOf i).toNat)
    case atStart => exact ⟨0, 0, 0, Nat.zero_le _, rfl, rfl, rfl, _, HT.out⟩
    case round =>
      obtain ⟨k, an, fn, hk, rfl, rfl, rfl, T, hT⟩ := hrel
      have HT2 := Lib.hid hT
      have han : an ≤ k := hT.an_le
      have hfn : fn ≤ an := hT.fn_le
      clear hT HT
      by_cases hlt : k < l.length
      · have h1' : (k : Int) < (l.length : Int) := by omega
        obtain ⟨y, hy⟩ : ∃ y, l[k]? = some y := ⟨_, List.getElem?_eq_getElem hlt⟩
        obtain ⟨b, off, rfl, _⟩ := HR.out.at hy
        have hra := HR.out.below HT2.out.bel
        obtain ⟨y0, y1, y2, y3, y4, y5⟩ := hra.cells hy
        have HRA := Lib.hid hra
        clear hra
        by_cases c1 : y.kind = 1
        · have HP := Lib.hid (law_put HT2.out.m y hN1 hN2 (fun k hk => HAl.out k (by have := HT2.out.bel.size; omega)))
          have y0' : wr.cell? ⟨b, off + k * 6, none⟩ = some (.int .u8 1) := by rw [y0, c1]
          unfold actV actRow at HP
          rw [c1] at HP
          clear y0
          go_wp2_with fail
          refine HP.out.mono ?_; rintro e w4 ⟨rfl, hM, hf⟩
          have HT3 := Lib.hid (HT2.out.step hM hf (HT2.out.ins.put hy c1) (by omega) hfn)
          clear hM hf HP y0' y1 y2 y3 y4 y5
          go_wp2
          go_roundw
          case rel => exact ⟨k + 1, an, fn, by omega, rfl, rfl, by go_num, _, HT3.out⟩
          case measure => simp [intOf]; omega
        · by_cases c2 : y.kind = 2
          · have HC := Lib.hid (memo_Clear HT2.out.m hN1 hN2)
            have y0' : wr.cell? ⟨b, off + k * 6, none⟩ = some (.int .u8 2) := by rw [y0, c2]
            have HC1 := Lib.hid c1
            clear y0 c1
            go_wp2_with fail
            refine HC.out.mono ?_; rintro e w4 ⟨rfl, hM, hf⟩
            have HT3 := Lib.hid (HT2.out.step hM hf (InStep.clear hy c2) (by omega) hfn)
            clear hM hf HC y0' y1 y2 y3 y4 y5
            go_wp2
            go_roundw
            case rel => exact ⟨k + 1, an, fn, by omega, rfl, rfl, by go_num, _, HT3.out⟩
            case measure => simp [intOf]; omega
          · have HIN := Lib.hid (HT2.out.ins.other hy c1 c2)
            have hG := law_get HT2.out.m y hN1 hN2 (by omega) (by omega) (by omega) (by omega)
            have hF := HT2.out.ins.found y
            have hL := HT2.out.ins.last y
            obtain ⟨R, hR⟩ : ∃ R, getA T y N = R := ⟨_, rfl⟩
            rw [hR] at hG hF hL
            obtain ⟨⟨q1, q2, q3⟩, hq⟩ : ∃ q, keptF l y k true = q := ⟨_, rfl⟩
            rw [hq] at hF hL
            have HQ := Lib.hid hq
            have HG := Lib.hid hG
            clear hG hR hq
            cases R with
            | some r =>
              obtain ⟨hq2, hq1⟩ := hF r rfl
              dsimp only at hq2 hq1
              subst hq2 hq1
              clear hF hL
              go_wp2_with fail
              refine HG.out.mono ?_; rintro e w4 ⟨he, hM, hf⟩
              have he2 : e = .returned (.tuple #[.int .i64 q1, .bool true]) := he
              clear he
              subst he2
              have hM2 : Memo w4 S (w.heap.size + 1) N (an + 1 : Nat) (fn + 1 : Nat) T := hM
              have HT3 := Lib.hid (HT2.out.step hM2 hf HIN.out (by omega) (by omega))
              have HK := Lib.hid (ref_Kept (HR.out.below HT3.out.bel) HT3.out.bel.size c hlc hcm hy (by omega))
              rw [HQ.out] at HK
              dsimp only at HK
              clear hM hM2 hf HG y0 y1 y2 y3 y4 y5 HT2 HIN
              go_wp2_with fail
              refine HK.out.mono ?_; rintro e w5 ⟨rfl, hb5⟩
              have HT4 := Lib.hid (HT3.out.below hb5)
              clear hb5 HK HT3 HQ
              go_wp2
              go_roundw
              case rel => exact ⟨k + 1, an + 1, fn + 1, by omega, by go_num, by go_num, by go_num, _, HT4.out⟩
              case measure => simp [intOf]; omega
            | none =>
              have hq3 : q3 = false := by
                cases q3 with
                | false => rfl
                | true => exact absurd rfl (hL rfl)
              subst hq3
              clear hF hL
              go_wp2_with fail
              refine HG.out.mono ?_; rintro e w4 ⟨he, hM, hf⟩
              have he2 : e = .returned (.tuple #[.int .i64 0, .bool false]) := he
              clear he
              subst he2
              have hM2 : Memo w4 S (w.heap.size + 1) N (an + 1 : Nat) fn T := by
                have : (fn : Int) + hitN none = fn := by show (fn : Int) + 0 = fn; omega
                rw [this] at hM
                exact hM
              have HT3 := Lib.hid (HT2.out.step hM2 hf HIN.out (by omega) (by omega))
              have HK := Lib.hid (ref_Kept (HR.out.below HT3.out.bel) HT3.out.bel.size c hlc hcm hy (by omega))
              rw [HQ.out] at HK
              dsimp only at HK
              clear hM hM2 hf HG y0 y1 y2 y3 y4 y5 HT2 HIN
              go_wp2_with fail
              refine HK.out.mono ?_; rintro e w5 ⟨rfl, hb5⟩
              have HT4 := Lib.hid (HT3.out.below hb5)
              clear hb5 HK HT3 HQ
              go_wp2
              go_roundw
              case rel => exact ⟨k + 1, an + 1, fn, by omega, by go_num, rfl, by go_num, _, HT4.out⟩
              case measure => simp [intOf]; omega
      · have h1' : ¬ (k : Int) < (l.length : Int) := by omega
        have HC := Lib.hid (HT2.out.m.count)
        have HB2 := Lib.hid HT2.out.bel
        have HM2 := Lib.hid HT2.out.m
        clear HT2
        go_wp2_with fail
        refine HC.out.mono ?_; rintro e w3 ⟨rfl, hb3⟩
        have HB3 := Lib.hid (HB2.out.trans (hb3.mono HB2.out.size))
        have HZ := Lib.hid (HM2.out.below hb3).size
        clear hb3 HM2 HC HB2
        go_wp2_with fail
        refine HZ.out.mono ?_; rintro e w4 ⟨rfl, rfl⟩
        go_wp2_with fail
        refine (HH.out _).mono ?_; rintro e w4 ⟨rfl, rfl⟩
        go_wp2_with fail
        refine (lives_any _).mono ?_; rintro e w5 ⟨rfl, hb5⟩
        have HB5 := Lib.hid (HB3.out.trans (hb5.mono HB3.out.size))
        clear hb5 HB3
        go_wp2
        go_ret
        exact ⟨rfl, HB5.out⟩
end Go.Proofs.Ytejmnjgmmjpenaa
