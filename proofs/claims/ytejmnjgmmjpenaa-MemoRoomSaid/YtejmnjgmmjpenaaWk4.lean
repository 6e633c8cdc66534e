/- MemoRoom, over the contracts. -/
import Derived.Test.YtejmnjgmmjpenaaMath
import Derived.Test.YtejmnjgmmjpenaaFna
namespace Go.Proofs.Ytejmnjgmmjpenaa
open Go.RowKit

theorem pigeon : ∀ (N : Nat) (l : List Nat), l.Nodup → (∀ x ∈ l, x < N) → l.length ≤ N
  | 0, l, _, h => by
    cases l with
    | nil => exact Nat.le_refl _
    | cons x t => exact absurd (h x (List.mem_cons_self ..)) (by omega)
  | N + 1, l, hd, h => by
    have h2 := pigeon N (l.erase N) (hd.erase N) (fun x hx => by
      have h3 := (List.Nodup.mem_erase_iff hd).1 hx
      have := h x h3.2
      have : x ≠ N := h3.1
      omega)
    by_cases hN : N ∈ l
    · rw [List.length_erase_of_mem hN] at h2; omega
    · rw [List.erase_of_not_mem hN] at h2; omega
theorem slot_lt {x : Act} {N : Nat} (h : 1 ≤ N) : slotA x N < N := by
  have := slotF_bd (op := x.op) (a := x.a) (b := x.b) (c := x.c) (n := (N : Int)) (by omega)
  unfold slotA
  omega
theorem found_key {T : Nat → Option Rc} {x : Act} {N : Nat} (h : (getA T x N).isSome = true) : ∃ rc, T (slotA x N) = some rc ∧ rc.op = x.op ∧ rc.a = x.a ∧ rc.b = x.b ∧ rc.c = x.c := by
  rw [getA_eq] at h
  generalize slotA x N = s at h ⊢
  cases hT : T s with
  | none => rw [hT] at h; cases h
  | some rc =>
    rw [hT] at h
    refine ⟨rc, rfl, ?_⟩
    by_cases hk : rc.op = x.op ∧ rc.a = x.a ∧ rc.b = x.b ∧ rc.c = x.c
    · exact hk
    · have : lookR (some rc) x.op x.a x.b x.c = none := if_neg hk
      rw [this] at h; cases h
def hits (T : Nat → Option Rc) (N : Nat) (U : List Act) (k : Nat) : Nat := ((U.take k).filter fun x => (getA T x N).isSome).length
theorem hits_le (T : Nat → Option Rc) (N : Nat) (U : List Act) (k : Nat) : hits T N U k ≤ k := by
  unfold hits
  exact Nat.le_trans (List.length_filter_le _ _) (by rw [List.length_take]; omega)
theorem hits_succ {T : Nat → Option Rc} {N : Nat} {U : List Act} {k : Nat} {x : Act} (h : U[k]? = some x) : hits T N U (k + 1) = hits T N U k + (if (getA T x N).isSome then 1 else 0) := by
  unfold hits
  have hk := List.getElem?_eq_some_iff.1 h
  rw [List.take_succ_eq_append_getElem hk.1, List.filter_append, List.length_append, hk.2]
  by_cases c : (getA T x N).isSome = true
  · simp [c]
  · simp [c]
theorem hits_room {T : Nat → Option Rc} {N : Nat} {U : List Act} (hN : 1 ≤ N) (hU : Apart2 U) : hits T N U U.length ≤ N := by
  unfold hits
  rw [List.take_length]
  have h := pigeon N ((U.filter fun x => (getA T x N).isSome).map fun x => slotA x N) ?_ ?_
  · rwa [List.length_map] at h
  · unfold List.Nodup
    rw [List.pairwise_map, List.pairwise_filter]
    refine hU.imp fun {x y} hk hx hy hs => hk ?_
    obtain ⟨r1, h1, a1, a2, a3, a4⟩ := found_key hx
    obtain ⟨r2, h2, b1, b2, b3, b4⟩ := found_key hy
    rw [hs, h2] at h1
    cases h1
    exact ⟨a1.symm.trans b1, a2.symm.trans b2, a3.symm.trans b3, a4.symm.trans b4⟩
  · intro s hs
    rw [List.mem_map] at hs
    obtain ⟨x, _, rfl⟩ := hs
    exact slot_lt hN
/-- What the loops of MemoRoom keep. -/
structure Room (w0 w : World) (S : Nat → Prop) (bm N lo : Nat) (Au : Option Addr) (U : List Act) (an fn : Nat) (T : Nat → Option Rc) : Prop where
  m : Memo w S bm N an fn T
  bel : Below w0.heap.size w0 w
  ru : RU w lo Au U
  ge : ∀ k, S k → w0.heap.size ≤ k
  lt : ∀ k, S k → k < lo
theorem Room.step {w0 w w' : World} {S : Nat → Prop} {bm N lo : Nat} {Au : Option Addr} {U : List Act} {an fn an' fn' : Nat} {T : Nat → Option Rc} (h : Room w0 w S bm N lo Au U an fn T) (hm : Memo w' S bm N an' fn' T) (hf : Frm S w w') : Room w0 w' S bm N lo Au U an' fn' T :=
  ⟨hm, h.bel.trans (hf.below2 h.ge h.bel.size), h.ru.frm hf h.lt, h.ge, h.lt⟩
theorem Room.make {w0 w w2 : World} {S : Nat → Prop} {bm N : Nat} {Au : Option Addr} {U : List Act} {T : Nat → Option Rc} (hM : Memo w S bm N 0 0 T) (hB : Below w0.heap.size w0 w) (hb : Below w.heap.size w w2) (hR : RU w2 w.heap.size Au U)
    (hg : ∀ k, S k → w0.heap.size ≤ k) : ∃ S2 lo, Room w0 w2 S2 bm N lo Au U 0 0 T :=
  ⟨fun k => S k ∧ k < w.heap.size, w.heap.size, (hM.narrow fun _ hk hlt => ⟨hk, hlt⟩).below hb, hB.trans (hb.mono hB.size), hR, fun k hk => hg k hk.1, fun _ hk => hk.2⟩

set_option maxRecDepth 100000 in
set_option maxHeartbeats 4000000 in
theorem memoRoom_walk (n : Int) (A : Option Addr) (c : Nat) (l : List Act) (w : World) (_hn : (Lit.int .i64 n).wf = true) (hRA : RA w w.heap.size A l) (_hlc : l.length ≤ c) (_hcm : c ≤ maxLen) :
    Calls Try.prog 4 #[.int .i64 n, .slice A l.length c] w fun e w' => e = .returned (.bool true) ∧ Below w.heap.size w w' := by
  obtain ⟨S, hS⟩ : ∃ S : Nat → Prop, S = fun k => w.heap.size ≤ k := ⟨_, rfl⟩
  have hge : ∀ k, S k → w.heap.size ≤ k := fun k h => by rw [hS] at h; exact h
  have hal : ∀ k, w.heap.size ≤ k → S k := fun k h => by rw [hS]; exact h
  have hNm := memo_New2 n w S (fun k h1 _ => hal k h1)
  obtain ⟨N, hN⟩ : ∃ N, heldF n = N := ⟨_, rfl⟩
  have hN2 := heldF_bd n
  rw [hN] at hNm hN2
  obtain ⟨hN1, hN2⟩ := hN2
  have HNm := Lib.hid hNm
  have HR := Lib.hid hRA
  have HGe := Lib.hid hge
  have HAl := Lib.hid hal
  clear hRA _hn hS hNm hge hal hN
  by_cases hlen : 60 < l.length
  · have h1 : (60 : Int) < (l.length : Int) := by omega
    go_enter Try.func4, Try.ntmps4
    go_wp2_with fail
    refine (lives_any _).mono ?_; rintro e w3 ⟨rfl, hb3⟩
    have HB3 := Lib.hid hb3
    clear hb3
    go_wp2
    go_ret
    exact ⟨rfl, HB3.out⟩
  · have h1 : (l.length : Int) ≤ 60 := by omega
    go_enter Try.func4, Try.ntmps4
    go_wp2_with fail
    refine HNm.out.mono ?_; rintro e w1 ⟨rfl, hm1, hb1, hz1⟩
    have HM1 := Lib.hid hm1
    have HB1 := Lib.hid hb1
    clear hm1 hb1 hz1 HNm
    go_wp2_with fail
    go_loopw [6] (fun i wr => ∃ k : Nat, k ≤ l.length ∧ i = .int .i64 k ∧ ∃ T, Memo wr S (w.heap.size + 1) N 0 0 T ∧ Below w.heap.size w wr ∧ ∀ j y, j + 1 = k → l[j]? = some y → getA T y N = some y.r) (fun i _ => l.length - (intOf i).toNat)
    case atStart => exact ⟨0, Nat.zero_le _, rfl, _, HM1.out, HB1.out, fun j y hj _ => absurd hj (by omega)⟩
    case round =>
      obtain ⟨k, hk, rfl, T, hM, hb, hlast⟩ := hrel
      have HM := Lib.hid hM
      have HB := Lib.hid hb
      have HL := Lib.hid hlast
      clear hM hb hlast HM1 HB1
      by_cases hlt : k < l.length
      · have h1' : (k : Int) < (l.length : Int) := by omega
        obtain ⟨y, hy⟩ : ∃ y, l[k]? = some y := ⟨_, List.getElem?_eq_getElem hlt⟩
        obtain ⟨b, off, rfl, _⟩ := HR.out.at hy
        obtain ⟨y0, y1, y2, y3, y4, y5⟩ := (HR.out.below HB.out).cells hy
        have HP := Lib.hid (law_put HM.out y hN1 hN2 (fun k hk => HAl.out k (by have := HB.out.size; omega)))
        go_wp2_with fail
        refine HP.out.mono ?_; rintro e w4 ⟨rfl, hM4, hf4⟩
        have HM4 := Lib.hid hM4
        have HB4 := Lib.hid (HB.out.trans (hf4.below2 HGe.out HB.out.size))
        have HL4 := Lib.hid (show ∀ j z, j + 1 = k + 1 → l[j]? = some z → getA (putT T (slotA y N) (recA y)) z N = some z.r from fun j z hj hz => by
          obtain rfl : j = k := by omega
          rw [hy] at hz
          cases hz
          exact get_put T y N)
        clear hM4 hf4 HP y0 y1 y2 y3 y4 y5
        go_wp2
        go_roundw
        case rel => exact ⟨k + 1, by omega, by go_num, _, HM4.out, HB4.out, HL4.out⟩
        case measure => simp [intOf]; omega
      · have h1' : ¬ (k : Int) < (l.length : Int) := by omega
        obtain rfl : k = l.length := by omega
        have HU := Lib.hid (ref_Unlike (HR.out.below HB.out) HB.out.size c (by omega))
        go_wp2_with fail
        refine HU.out.mono ?_; rintro e w2 ⟨U, v, rfl, hO, hUl, hUa, hbU⟩
        obtain ⟨Au, cu, rfl, hRU⟩ := hO.form
        obtain ⟨S2, lo, hT⟩ := Room.make HM.out HB.out hbU hRU HGe.out
        have HT := Lib.hid hT
        have HUa := Lib.hid hUa
        clear hT hO hRU hbU HU HB HM hUa
        go_wp2_with fail
        go_loopw [8, 9] (fun a i wr => ∃ k : Nat, k ≤ U.length ∧ i = .int .i64 k ∧ a = .int .i64 (hits T N U k) ∧ Room w wr S2 (w.heap.size + 1) N lo Au U k (hits T N U k) T) (fun _ i _ => U.length - (intOf i).toNat)
        case atStart => exact ⟨0, Nat.zero_le _, rfl, rfl, HT.out⟩
        case round =>
          obtain ⟨k, hk, rfl, rfl, hT⟩ := hrel
          have HT2 := Lib.hid hT
          have hh := hits_le T N U k
          obtain ⟨h, hhk⟩ : ∃ h, hits T N U k = h := ⟨_, rfl⟩
          rw [hhk] at hh HT2 ⊢
          have HK := Lib.hid hhk
          clear hT HT hhk
          by_cases hlt : k < U.length
          · have h1' : (k : Int) < (U.length : Int) := by omega
            obtain ⟨y, hy⟩ : ∃ y, U[k]? = some y := ⟨_, List.getElem?_eq_getElem hlt⟩
            obtain ⟨b, off, rfl, _⟩ := HT2.out.ru.1.at hy
            obtain ⟨y0, y1, y2, y3, y4, y5⟩ := HT2.out.ru.1.cells hy
            have hG := law_get HT2.out.m y hN1 hN2 (by omega) (by omega) (by omega) (by omega)
            have hs := hits_succ (T := T) (N := N) hy
            rw [HK.out] at hs
            obtain ⟨R, hR⟩ : ∃ R, getA T y N = R := ⟨_, rfl⟩
            rw [hR] at hG hs
            have HG := Lib.hid hG
            clear hG hR
            cases R with
            | some r =>
              have hs2 : hits T N U (k + 1) = h + 1 := hs
              have HS := Lib.hid hs2
              clear hs hs2
              go_wp2_with fail
              refine HG.out.mono ?_; rintro e w4 ⟨he, hM, hf⟩
              have he2 : e = .returned (.tuple #[.int .i64 r, .bool true]) := he
              clear he
              subst he2
              have HT3 := Lib.hid (HT2.out.step (an' := k + 1) (fn' := h + 1) hM hf)
              clear hM hf HG y0 y1 y2 y3 y4 y5
              go_wp2
              go_roundw
              case rel => exact ⟨k + 1, by omega, by go_num, by rw [HS.out]; go_num, by rw [HS.out]; exact HT3.out⟩
              case measure => simp [intOf]; omega
            | none =>
              have hs2 : hits T N U (k + 1) = h := hs
              have HS := Lib.hid hs2
              clear hs hs2
              go_wp2_with fail
              refine HG.out.mono ?_; rintro e w4 ⟨he, hM, hf⟩
              have he2 : e = .returned (.tuple #[.int .i64 0, .bool false]) := he
              clear he
              subst he2
              have hz : (h : Int) + hitN none = h := by show (h : Int) + 0 = h; omega
              rw [hz] at hM
              have HT3 := Lib.hid (HT2.out.step (an' := k + 1) (fn' := h) hM hf)
              clear hM hf hz HG y0 y1 y2 y3 y4 y5
              go_wp2
              go_roundw
              case rel => exact ⟨k + 1, by omega, by go_num, by rw [HS.out], by rw [HS.out]; exact HT3.out⟩
              case measure => simp [intOf]; omega
          · have h1' : ¬ (k : Int) < (U.length : Int) := by omega
            obtain rfl : k = U.length := by omega
            have hroom := hits_room (T := T) hN1 HUa.out
            rw [HK.out] at hroom
            have hroomI : (h : Int) ≤ (N : Int) := by omega
            by_cases hl0 : 0 < l.length
            · have hl0I : (0 : Int) < (l.length : Int) := by omega
              have hj : l.length - 1 + 1 = l.length := by omega
              obtain ⟨y, hy⟩ : ∃ y, l[l.length - 1]? = some y := ⟨_, List.getElem?_eq_getElem (by omega)⟩
              obtain ⟨b, off, rfl, _⟩ := HR.out.at hy
              obtain ⟨y0, y1, y2, y3, y4, y5⟩ := (HR.out.below HT2.out.bel).cells hy
              have hG := law_get HT2.out.m y hN1 hN2 (by omega) (by omega) (by omega) (by omega)
              rw [HL.out _ y hj hy] at hG
              have HG := Lib.hid hG
              clear hG
              go_wp2_with fail
              refine HG.out.mono ?_; rintro e w4 ⟨he, hM, hf⟩
              have he2 : e = .returned (.tuple #[.int .i64 y.r, .bool true]) := he
              clear he
              subst he2
              have hT3 := HT2.out.step (an' := U.length + 1) (fn' := h + 1) hM hf
              obtain ⟨_, _, _, _, _, z5⟩ := (HR.out.below hT3.bel).cells hy
              have HB2 := Lib.hid hT3.bel
              have HZ := Lib.hid hT3.m.size
              clear hM hf HG y0 y1 y2 y3 y4 y5 hT3 HT2 HL
              go_wp2_with fail
              refine HZ.out.mono ?_; rintro e w5 ⟨rfl, rfl⟩
              go_wp2_with fail
              refine (lives_any _).mono ?_; rintro e w5 ⟨rfl, hb5⟩
              have HB5 := Lib.hid (HB2.out.trans (hb5.mono HB2.out.size))
              clear hb5 HB2
              go_wp2
              go_ret
              exact ⟨rfl, HB5.out⟩
            · have hl0I : ¬ (0 : Int) < (l.length : Int) := by omega
              have HB2 := Lib.hid HT2.out.bel
              have HZ := Lib.hid HT2.out.m.size
              clear HT2 HL
              go_wp2_with fail
              refine HZ.out.mono ?_; rintro e w4 ⟨rfl, rfl⟩
              go_wp2_with fail
              refine (lives_any _).mono ?_; rintro e w5 ⟨rfl, hb5⟩
              have HB5 := Lib.hid (HB2.out.trans (hb5.mono HB2.out.size))
              clear hb5 HB2
              go_wp2
              go_ret
              exact ⟨rfl, HB5.out⟩
end Go.Proofs.Ytejmnjgmmjpenaa
