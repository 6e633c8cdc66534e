/- Rows of bytes of the call's own; contract of slices.Reverse over them, of layer 4 (cnt). -/
import Derived.Test.YtjnabmchejdhpaaFnf
namespace Go.Proofs.Ytjnabmchejdhpaa
open Go.RowKit

def RB (w : World) (B : Nat) (A : Option Addr) (l : List Int) : Prop :=
  0 < l.length → ∃ b off, A = some ⟨b, off, none⟩ ∧ b < B ∧ ∀ i, i < l.length → w.cell? ⟨b, off + i, none⟩ = some (.int .u8 (li l i))
theorem RB.nil {w : World} {B : Nat} {A : Option Addr} : RB w B A [] := fun h => absurd h (by simp)
def byteRow (l : List Int) : Array Value := (l.map (Value.int .u8)).toArray
theorem byteRow_at {l : List Int} {i : Nat} (h : i < l.length) : (byteRow l)[i]? = some (.int .u8 (li l i)) := by
  unfold byteRow li; simp [h]
theorem byteRow_set (l : List Int) (i : Nat) (b : Int) : (byteRow l).setIfInBounds i (.int .u8 b) = byteRow (l.set i b) := by
  unfold byteRow; simp
def OwnB (w : World) (base : Nat) (v : Value) (l : List Int) : Prop := w.ownsRow base 5 1 v l.length (l.map (Value.int .u8))
theorem OwnB.block {w : World} {base : Nat} {v : Value} {l : List Int} (h : OwnB w base v l) (k : Nat) (e : v.ownBlock = some k) : base ≤ k := by
  rcases h.2 with ⟨rfl, _⟩ | ⟨g, cap, cur, rfl, hg, _⟩
  · simp [Value.ownBlock] at e
  · simp [Value.ownBlock] at e; omega
theorem OwnB.form {w : World} {base : Nat} {v : Value} {l : List Int} (h : OwnB w base v l) : ∃ A c, v = .slice A l.length c ∧ RB w w.heap.size A l ∧ (A = none → c = 0) := by
  rcases h.2 with ⟨rfl, h0⟩ | ⟨g, cap, cur, rfl, hg, hh, hn, hc, hsz, htk⟩
  · have : l = [] := List.eq_nil_of_length_eq_zero h0
    subst this
    exact ⟨none, 0, rfl, RB.nil, fun _ => rfl⟩
  · refine ⟨_, cap, rfl, fun hp => ⟨g, 0, rfl, ?_, fun i hi => ?_⟩, fun e => by cases e⟩
    · rcases Nat.lt_or_ge g w.heap.size with hlt | hge
      · exact hlt
      · rw [Array.getElem?_eq_none hge] at hh; cases hh
    · rw [Nat.zero_add, cell_of_row w g i cur 5 (0, 0) hh]
      have h2 : (l.map (Value.int .u8))[i]? = some (.int .u8 (li l i)) := by unfold li; simp [hi]
      rw [← htk, List.getElem?_take] at h2
      split at h2
      · simpa using h2
      · cases h2
theorem OwnB.push {w : World} {base : Nat} {v : Value} {l : List Int} {b : Int} (h : w.ownsRow base 5 1 v (l.length + 1) (l.map (Value.int .u8) ++ [.int .u8 b])) : OwnB w base v (l ++ [b]) := by
  unfold OwnB; simpa using h
theorem OwnB.set {w : World} {base : Nat} {v : Value} {l : List Int} {i : Nat} (h : OwnB w base v l) (hi : i < l.length) (x : Int) :
    ∃ g c, v = .slice (some ⟨g, 0, none⟩) l.length c ∧ base ≤ g ∧ g < w.heap.size ∧ w.frozen? ⟨g, i, none⟩ = false ∧ OwnB (w.setCell ⟨g, i, none⟩ (.int .u8 x)) base v (l.set i x) := by
  rcases h.2 with ⟨rfl, h0⟩ | ⟨g, cap, cur, rfl, hg, hh, hn, hc, hsz, htk⟩
  · omega
  · have hlt : g < w.heap.size := by
      rcases Nat.lt_or_ge g w.heap.size with hlt | hge
      · exact hlt
      · rw [Array.getElem?_eq_none hge] at hh; cases hh
    have hB : Blk w g 5 cur := hh
    refine ⟨g, cap, rfl, hg, hlt, hB.frozen i, ?_⟩
    have hB2 := hB.set_ i (.int .u8 x)
    refine ⟨by simp, .inr ⟨g, cap, _, by simp, hg, hB2, by simpa using hn, hc, by simpa using hsz, ?_⟩⟩
    simp only [Array.toList_setIfInBounds, List.length_set]
    rw [List.take_set, htk, List.map_set]
theorem OwnB.keep {w w' : World} {base : Nat} {v : Value} {l : List Int} (h : OwnB w base v l) (hb : Below w.heap.size w w') : OwnB w' base v l := by
  obtain ⟨h1, h2⟩ := h
  refine ⟨h1, ?_⟩
  rcases h2 with h2 | ⟨g, cap, cur, e, hg, hh, r⟩
  · exact .inl h2
  · have hlt : g < w.heap.size := by
      rcases Nat.lt_or_ge g w.heap.size with q | q
      · exact q
      · rw [Array.getElem?_eq_none q] at hh; cases hh
    exact .inr ⟨g, cap, cur, e, hg, (hb.block g hlt).trans hh, r⟩
theorem OwnB.grow2 {w wr w1 : World} {B : Nat} {v : Value} {l : List Int} {o : Obj} (hO : OwnB wr B v l) (hb : Below B w wr) (hB : B ≤ wr.heap.size) (hg : (wr.alloc o).grownBy w1 v.ownBlock) : Below B w w1 :=
  (hb.alloc hB _).grown hg (by simp; omega) (fun k e => hO.block k e)
theorem OwnB.at {w : World} {base : Nat} {v : Value} {l : List Int} {i : Nat} (h : OwnB w base v l) (hi : i < l.length) :
    ∃ g c, v = .slice (some ⟨g, 0, none⟩) l.length c ∧ base ≤ g ∧ g < w.heap.size ∧ w.cell? ⟨g, i, none⟩ = some (.int .u8 (li l i)) ∧ w.frozen? ⟨g, i, none⟩ = false ∧
      ∀ x, OwnB (w.setCell ⟨g, i, none⟩ (.int .u8 x)) base v (l.set i x) := by
  obtain ⟨g, c, rfl, h1, h2, h3, _⟩ := h.set hi 0
  refine ⟨g, c, rfl, h1, h2, ?_, h3, fun x => ?_⟩
  · obtain ⟨A, c2, e, hR, _⟩ := h.form
    obtain ⟨b, o, e2, _, hc⟩ := hR (by omega)
    injection e with e3 e4 e5
    rw [← e3] at e2
    injection e2 with e2
    injection e2 with e6 e7 e8
    subst e6 e7
    have := hc i hi
    rwa [Nat.zero_add] at this
  · obtain ⟨g2, c2, e, _, _, _, h4⟩ := h.set hi x
    injection e with e3 e4 e5
    injection e3 with e3
    injection e3 with e3
    subst e3
    exact h4
theorem OwnB.len_cap {w : World} {base : Nat} {v : Value} {l : List Int} (h : OwnB w base v l) : ∃ A c, v = .slice A l.length c ∧ l.length ≤ c ∧ c ≤ maxLen ∧ RB w w.heap.size A l ∧ (A = none → c = 0) := by
  rcases h.2 with ⟨rfl, h0⟩ | ⟨g, cap, cur, rfl, hg, hh, hn, hc, hsz, htk⟩
  · have : l = [] := List.eq_nil_of_length_eq_zero h0
    subst this
    exact ⟨none, 0, rfl, Nat.le_refl _, Nat.zero_le _, RB.nil, fun _ => rfl⟩
  · obtain ⟨A, c, e, hR, hA⟩ := h.form
    injection e with e1 e2 e3
    subst e1 e3
    exact ⟨_, _, rfl, hn, hc, hR, hA⟩
theorem OwnB.nil (w : World) (B : Nat) : OwnB w B (.slice none 0 0) [] := ⟨rfl, .inl ⟨rfl, rfl⟩⟩
/-- l with its first and last k elements exchanged, as m. -/
def Rev (l m : List Int) (k : Nat) : Prop := m.length = l.length ∧ ∀ p, p < l.length → li m p = if p < k ∨ l.length - k ≤ p then li l (l.length - 1 - p) else li l p
theorem Rev.start (l : List Int) : Rev l l 0 := ⟨rfl, fun p hp => by rw [if_neg (by omega)]⟩
theorem Rev.step {l m : List Int} {k : Nat} (h : Rev l m k) (hk : 2 * k + 1 < l.length) : Rev l ((m.set k (li m (l.length - 1 - k))).set (l.length - 1 - k) (li m k)) (k + 1) := by
  refine ⟨by rw [List.length_set, List.length_set, h.1], fun p hp => ?_⟩
  have h1 := h.1
  rw [li_set (by rw [List.length_set]; omega)]
  by_cases e : l.length - 1 - k = p
  · rw [if_pos e, if_pos (by omega), h.2 k (by omega), if_neg (by omega)]
    congr 1; omega
  · rw [if_neg e, li_set (by omega)]
    by_cases e2 : k = p
    · rw [if_pos e2, if_pos (by omega), h.2 _ (by omega), if_neg (by omega)]
      congr 1; omega
    · rw [if_neg e2, h.2 p hp]
      by_cases c : p < k ∨ l.length - k ≤ p
      · rw [if_pos c, if_pos (by omega)]
      · rw [if_neg c, if_neg (by omega)]
theorem Rev.done {l m : List Int} {k : Nat} (h : Rev l m k) (hk : ¬ 2 * k + 1 < l.length) (hk2 : k ≤ l.length) : m = l.reverse := by
  apply li_ext (by rw [h.1, List.length_reverse])
  intro p hp
  rw [h.1] at hp
  rw [h.2 p hp]
  have e : li l.reverse p = li l (l.length - 1 - p) := by
    unfold li
    rw [List.getD, List.getD, List.getElem?_reverse hp]
  rw [e]
  split
  · rfl
  · congr 1; omega
set_option maxHeartbeats 2000000 in
theorem cnt_Reverse (B : Nat) (v : Value) (l : List Int) (w : World) (hO : OwnB w B v l) (_hB : B ≤ w.heap.size) (hl : l.length ≤ 1000000000) :
    Calls Try.prog 44 #[v] w fun e w' => e = .returned (.tuple #[]) ∧ OwnB w' B v l.reverse ∧ Below B w w' := by
  obtain ⟨A, c0, rfl, hcl, hcm, _, _⟩ := hO.len_cap
  have HO := Lib.hid hO
  clear hO
  go_enter Try.func44, Try.ntmps44
  go_wp2
  go_loopw [2, 3] (fun i j wr => ∃ (k : Nat) (m : List Int), k ≤ l.length ∧ i = .int .i64 (k : Int) ∧ j = .int .i64 ((l.length : Int) - 1 - (k : Int)) ∧ Hid (OwnB wr B (.slice A l.length c0) m ∧ Rev l m k) ∧ Below B w wr) (fun i _ _ => l.length - (intOf i).toNat)
  case atStart => exact ⟨0, l, Nat.zero_le _, rfl, by simp, Lib.hid ⟨HO.out, Rev.start l⟩, Below.refl _ _⟩
  case round =>
    obtain ⟨k, m, hk, rfl, rfl, HT, hb⟩ := hrel
    by_cases hlt : 2 * k + 1 < l.length
    · obtain ⟨j, hj⟩ : ∃ j, j = l.length - 1 - k := ⟨_, rfl⟩
      have hml := HT.out.2.1
      have ej : (l.length : Int) - 1 - (k : Int) = (j : Int) := by omega
      have hlt' : (k : Int) < (j : Int) := by omega
      have hjl : (j : Int) < (l.length : Int) := by omega
      have hkl : (k : Int) < (l.length : Int) := by omega
      obtain ⟨g, cp, ev, hg1, hg2, e1, hfz1, hset1⟩ := HT.out.1.at (i := k) (by omega)
      injection ev with ev1 ev2 ev3
      subst ev1 ev3
      clear ev2
      obtain ⟨g', cp', ev, _, _, e2, hfz2, _⟩ := HT.out.1.at (i := j) (by omega)
      injection ev with ev1 ev2 ev3
      injection ev1 with ev1
      injection ev1 with ev1
      subst ev1
      clear ev2 ev3
      have HX : Hid (OwnB ((wr.setCell ⟨g, k, none⟩ (.int .u8 (li m j))).setCell ⟨g, j, none⟩ (.int .u8 (li m k))) B (.slice (some ⟨g, 0, none⟩) l.length c0) ((m.set k (li m j)).set j (li m k))) := Lib.hid (by
        obtain ⟨g3, cp3, ev, _, _, _, _, hs⟩ := (hset1 (li m j)).at (i := j) (by rw [List.length_set]; omega)
        injection ev with ev1 ev2 ev3
        injection ev1 with ev1
        injection ev1 with ev1
        subst ev1
        exact hs _)
      have HR := Lib.hid (HT.out.2.step hlt)
      rw [← hj] at HR
      have HBW : Hid (Below B w ((wr.setCell ⟨g, k, none⟩ (.int .u8 (li m j))).setCell ⟨g, j, none⟩ (.int .u8 (li m k)))) := Lib.hid ((hb.setCell (p := ⟨g, k, none⟩) hg1 _).setCell (p := ⟨g, j, none⟩) hg1 _)
      have hkj : k ≠ j := by omega
      have HJ := Lib.hid hj
      rw [ej]
      clear hset1 hj ej hml
      go_wp2
      go_region
      all_goals
        go_wp2
        go_roundw
        case rel => exact ⟨k + 1, _, by omega, by go_num, by (have := HJ.out; congr 1; omega), Lib.hid ⟨HX.out, HR.out⟩, HBW.out.drew⟩
        case measure => simp [intOf]; omega
    · have hn : ¬ (k : Int) < (l.length : Int) - 1 - (k : Int) := by omega
      have HM : Hid (m = l.reverse) := Lib.hid (HT.out.2.done hlt hk)
      go_wp2
      refine bodyPost_end (results_none rfl _ _ _) rfl ⟨rfl, by rw [← HM.out]; exact HT.out.1, hb⟩
end Go.Proofs.Ytjnabmchejdhpaa
