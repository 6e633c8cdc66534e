/- Contracts of the specification's Text and Parse of layer 2 (bits), over the translation. -/
import Derived.Test.YteoijhmaklocpaaFn5
import Derived.Test.YteoijhmaklocpaaFn6
import Derived.Maps.AppendAt
import Derived.Deep.AppendLies
import Derived.OwnWalk
namespace Go.Proofs.Yteoijhmaklocpaa
open Go.RowKit Go.PlainAid

/-- The slice v holds the booleans l, in memory of the call's own. -/
def Own (w : World) (base : Nat) (v : Value) (l : List Bool) : Prop := w.ownsRow base 4 1 v l.length (l.map Value.bool)
theorem Own.empty (w : World) : Own (w.alloc (.cells #[] 4)) w.heap.size (.slice (some ⟨w.heap.size, 0, none⟩) 0 0) [] := by
  refine ⟨rfl, .inr ⟨w.heap.size, 0, #[], rfl, Nat.le_refl _, ?_, Nat.le_refl _, Nat.zero_le _, rfl, rfl⟩⟩
  exact heap_alloc_new w _
theorem Own.block {w : World} {base : Nat} {v : Value} {l : List Bool} (h : Own w base v l) (k : Nat) (e : v.ownBlock = some k) : base ≤ k := by
  rcases h.2 with ⟨rfl, _⟩ | ⟨g, cap, cur, rfl, hg, _⟩
  · simp [Value.ownBlock] at e
  · simp [Value.ownBlock] at e; omega
theorem Own.rb {w : World} {base : Nat} {v : Value} {l : List Bool} (h : Own w base v l) : ∃ A c, v = .slice A l.length c ∧ RB w w.heap.size A l := by
  rcases h.2 with ⟨rfl, h0⟩ | ⟨g, cap, cur, rfl, hg, hh, hn, hc, hsz, htk⟩
  · have : l = [] := List.eq_nil_of_length_eq_zero h0
    subst this
    exact ⟨none, 0, rfl, RB.nil⟩
  · refine ⟨_, cap, rfl, fun hp => ⟨g, 0, rfl, ?_, fun i hi => ?_⟩⟩
    · rcases Nat.lt_or_ge g w.heap.size with hlt | hge
      · exact hlt
      · rw [Array.getElem?_eq_none hge] at hh; cases hh
    · rw [Nat.zero_add, cell_of_row w g i cur 4 (0, 0) hh]
      have h2 : (l.map Value.bool)[i]? = some (.bool (lb l i)) := by unfold lb; simp [hi]
      rw [← htk, List.getElem?_take] at h2
      split at h2
      · simpa using h2
      · cases h2
theorem Own.push {w : World} {base : Nat} {v : Value} {l : List Bool} {b : Bool} (h : w.ownsRow base 4 1 v (l.length + 1) (l.map Value.bool ++ [.bool b])) : Own w base v (l ++ [b]) := by
  unfold Own; simpa using h
theorem Own.grow {w wr w1 : World} {v : Value} {l : List Bool} {o : Obj} (hO : Own wr w.heap.size v l) (hb : Below w.heap.size w wr) (hg : (wr.alloc o).grownBy w1 v.ownBlock) : Below w.heap.size w w1 :=
  (hb.alloc hb.size _).grown hg (by have := hb.size; simp; omega) (fun k e => hO.block k e)
theorem max_ok {n : Nat} (h : n ≤ 1000000) : n + 1 ≤ maxLen := by unfold maxLen; omega
theorem str_snoc (ds : List Int) (d : Int) : strOfNums ds ++ strOfNums [d] = strOfNums (ds ++ [d]) := by
  apply ByteArray.ext
  simp [strOfNums, ByteArray.append_eq]

set_option maxHeartbeats 1000000 in
theorem ref_Parse_ok (s : ByteArray) (w : World) (hs : s.size ≤ 4096) (hbin : BinTo s s.size) :
    Calls Try.prog 21 #[.string s] w fun r w' => ∃ v, r = .returned (.tuple #[v, .int .i64 0]) ∧ Own w' w.heap.size v (binL s s.size) ∧ Below w.heap.size w w' := by
  obtain ⟨i0, hi0, hz0, hz1, hz2⟩ := info_parts info4
  have hb := get_bt s
  have HBIN := Lib.hid hbin
  clear hbin
  go_enter Try.func21, Try.ntmps21
  go_wp2
  go_loopw [4, 5] (fun v i wr => ∃ k : Nat, k ≤ s.size ∧ i = .int .i64 k ∧ Own wr w.heap.size v (binL s k) ∧ Below w.heap.size w wr) (fun _ i _ => s.size - (intOf i).toNat)
  case atStart => exact ⟨0, Nat.zero_le _, rfl, Own.empty w, (Below.refl _ _).alloc (Nat.le_refl _) _⟩
  case round =>
    rename_i v _ wr
    obtain ⟨k, hk, rfl, hO, hbw⟩ := hrel
    by_cases hlt : k < s.size
    · have HO := Lib.hid hO
      clear hO
      have hlt' : (k : Int) < (s.size : Int) := by omega
      have hlen := binL_len s k
      rcases HBIN.out k hlt with hv | hv
      · have h48 : (bt s k == 48) = true := by simp [hv]
        have h48n : (bt s k != 48) = false := by simp [hv]
        have h49 : (bt s k == 49) = false := by simp [hv]
        have h49n : (bt s k != 49) = true := by simp [hv]
        clear hv
        have HOP : ∀ v' w', World.ownsRow w' w.heap.size 4 1 v' ((binL s k).length + 1) ((binL s k).map Value.bool ++ [.bool false]) → Hid (Own w' w.heap.size v' (binL s (k + 1))) := fun v' w' h => by
          show Own _ _ _ _; rw [binL_succ, h49]; exact Own.push h
        go_wp2_with ((at_builtin; refine wpList_append_own _ rfl _ _ 23 rfl w.heap.size 4 i0 _ 1 1 Try.underlying23 hi0 hz0 hz1 hz2 rfl (by decide) _ _ _ rfl (World.ownsRow.alloc HO.out _) ⟨wr.heap.size, 0, none⟩ 1 1 [.bool false] rfl rfl (cell_one_new _ _ _) (by simp [Value.oneCell']) (max_ok (by omega)) (by omega) (by have := hbw.size; simp; omega) ?_; intro v2 w1 hown hg1 _))
        go_roundw
        case rel => exact ⟨k + 1, by omega, by go_num, (HOP _ _ hown).out, HO.out.grow hbw hg1⟩
        case measure => simp [intOf]; omega
      · have h48 : (bt s k == 48) = false := by simp [hv]
        have h48n : (bt s k != 48) = true := by simp [hv]
        have h49 : (bt s k == 49) = true := by simp [hv]
        have h49n : (bt s k != 49) = false := by simp [hv]
        clear hv
        have HOP : ∀ v' w', World.ownsRow w' w.heap.size 4 1 v' ((binL s k).length + 1) ((binL s k).map Value.bool ++ [.bool true]) → Hid (Own w' w.heap.size v' (binL s (k + 1))) := fun v' w' h => by
          show Own _ _ _ _; rw [binL_succ, h49]; exact Own.push h
        go_wp2_with ((at_builtin; refine wpList_append_own _ rfl _ _ 23 rfl w.heap.size 4 i0 _ 1 1 Try.underlying23 hi0 hz0 hz1 hz2 rfl (by decide) _ _ _ rfl (World.ownsRow.alloc HO.out _) ⟨wr.heap.size, 0, none⟩ 1 1 [.bool true] rfl rfl (cell_one_new _ _ _) (by simp [Value.oneCell']) (max_ok (by omega)) (by omega) (by have := hbw.size; simp; omega) ?_; intro v2 w1 hown hg1 _))
        go_roundw
        case rel => exact ⟨k + 1, by omega, by go_num, (HOP _ _ hown).out, HO.out.grow hbw hg1⟩
        case measure => simp [intOf]; omega
    · obtain rfl : k = s.size := by omega
      have HO := Lib.hid hO
      clear hO
      go_wp2
      go_ret2
      exact ⟨_, rfl, HO.out, hbw⟩
set_option maxHeartbeats 1000000 in
theorem ref_Parse_bad (s : ByteArray) (w : World) (hs : s.size ≤ 4096) (hbin : ¬ BinTo s s.size) :
    Calls Try.prog 21 #[.string s] w fun r w' => r = .returned (.tuple #[.slice none 0 0, .int .i64 3]) ∧ Below w.heap.size w w' := by
  obtain ⟨i0, hi0, hz0, hz1, hz2⟩ := info_parts info4
  have hb := get_bt s
  have HBIN := Lib.hid hbin
  clear hbin
  go_enter Try.func21, Try.ntmps21
  go_wp2
  go_loopw [4, 5] (fun v i wr => ∃ k : Nat, k ≤ s.size ∧ BinTo s k ∧ i = .int .i64 k ∧ Own wr w.heap.size v (binL s k) ∧ Below w.heap.size w wr) (fun _ i _ => s.size - (intOf i).toNat)
  case atStart => exact ⟨0, Nat.zero_le _, fun _ h => absurd h (by omega), rfl, Own.empty w, (Below.refl _ _).alloc (Nat.le_refl _) _⟩
  case round =>
    rename_i v _ wr
    obtain ⟨k, hk, hpre, rfl, hO, hbw⟩ := hrel
    have HP := Lib.hid hpre
    clear hpre
    by_cases hlt : k < s.size
    · have HO := Lib.hid hO
      clear hO
      have hlt' : (k : Int) < (s.size : Int) := by omega
      have hlen := binL_len s k
      have h3 : bt s k = 48 ∨ bt s k = 49 ∨ (bt s k ≠ 48 ∧ bt s k ≠ 49) := by omega
      have HP2 : bt s k = 48 ∨ bt s k = 49 → Hid (BinTo s (k + 1)) := fun h i hi => by
        by_cases e : i = k
        · rw [e]; exact h
        · exact HP.out i (by omega)
      rcases h3 with hv | hv | ⟨hv, hv2⟩
      · have HP2 := HP2 (.inl hv)
        have h48 : (bt s k == 48) = true := by simp [hv]
        have h48n : (bt s k != 48) = false := by simp [hv]
        have h49 : (bt s k == 49) = false := by simp [hv]
        have h49n : (bt s k != 49) = true := by simp [hv]
        clear hv
        have HOP : ∀ v' w', World.ownsRow w' w.heap.size 4 1 v' ((binL s k).length + 1) ((binL s k).map Value.bool ++ [.bool false]) → Hid (Own w' w.heap.size v' (binL s (k + 1))) := fun v' w' h => by
          show Own _ _ _ _; rw [binL_succ, h49]; exact Own.push h
        go_wp2_with ((at_builtin; refine wpList_append_own _ rfl _ _ 23 rfl w.heap.size 4 i0 _ 1 1 Try.underlying23 hi0 hz0 hz1 hz2 rfl (by decide) _ _ _ rfl (World.ownsRow.alloc HO.out _) ⟨wr.heap.size, 0, none⟩ 1 1 [.bool false] rfl rfl (cell_one_new _ _ _) (by simp [Value.oneCell']) (max_ok (by omega)) (by omega) (by have := hbw.size; simp; omega) ?_; intro v2 w1 hown hg1 _))
        go_roundw
        case rel => exact ⟨k + 1, by omega, HP2.out, by go_num, (HOP _ _ hown).out, HO.out.grow hbw hg1⟩
        case measure => simp [intOf]; omega
      · have HP2 := HP2 (.inr hv)
        have h48 : (bt s k == 48) = false := by simp [hv]
        have h48n : (bt s k != 48) = true := by simp [hv]
        have h49 : (bt s k == 49) = true := by simp [hv]
        have h49n : (bt s k != 49) = false := by simp [hv]
        clear hv
        have HOP : ∀ v' w', World.ownsRow w' w.heap.size 4 1 v' ((binL s k).length + 1) ((binL s k).map Value.bool ++ [.bool true]) → Hid (Own w' w.heap.size v' (binL s (k + 1))) := fun v' w' h => by
          show Own _ _ _ _; rw [binL_succ, h49]; exact Own.push h
        go_wp2_with ((at_builtin; refine wpList_append_own _ rfl _ _ 23 rfl w.heap.size 4 i0 _ 1 1 Try.underlying23 hi0 hz0 hz1 hz2 rfl (by decide) _ _ _ rfl (World.ownsRow.alloc HO.out _) ⟨wr.heap.size, 0, none⟩ 1 1 [.bool true] rfl rfl (cell_one_new _ _ _) (by simp [Value.oneCell']) (max_ok (by omega)) (by omega) (by have := hbw.size; simp; omega) ?_; intro v2 w1 hown hg1 _))
        go_roundw
        case rel => exact ⟨k + 1, by omega, HP2.out, by go_num, (HOP _ _ hown).out, HO.out.grow hbw hg1⟩
        case measure => simp [intOf]; omega
      · have h48 : (bt s k == 48) = false := by simp [hv]
        have h48n : (bt s k != 48) = true := by simp [hv]
        have h49 : (bt s k == 49) = false := by simp [hv2]
        have h49n : (bt s k != 49) = true := by simp [hv2]
        clear hv hv2 HP2
        go_wp2
        go_ret2
        exact ⟨rfl, hbw⟩
    · obtain rfl : k = s.size := by omega
      exact absurd HP.out HBIN.out

theorem ref_Parse_long (s : ByteArray) (w : World) (hs : 4096 < s.size) (hs2 : s.size ≤ 9223372036854775807) :
    Calls Try.prog 21 #[.string s] w fun r w' => r = .returned (.tuple #[.slice none 0 0, .int .i64 4]) ∧ Below w.heap.size w w' := by
  go_enter Try.func21, Try.ntmps21
  go_wp2
  go_ret2
  exact ⟨rfl, Below.refl _ _⟩

theorem textL_take {l : List Bool} {k : Nat} (h : k < l.length) : textL (l.take (k + 1)) = textL (l.take k) ++ [ch (lb l k)] := by
  have e : l.take (k + 1) = l.take k ++ [lb l k] := by
    rw [List.take_succ_eq_append_getElem h]; unfold lb; simp [List.getD, List.getElem?_eq_getElem h]
  rw [e]; unfold textL; simp

set_option maxHeartbeats 1000000 in
theorem ref_Text (A : Option Addr) (ca : Nat) (l : List Bool) (w : World) (h : RB w w.heap.size A l) (hl : l.length ≤ 1000000000000) :
    Calls Try.prog 17 #[.slice A l.length ca] w fun r w' => r = .returned (.string (strOfNums (textL l))) ∧ w = w' := by
  have H := Lib.hid h
  clear h
  go_enter Try.func17, Try.ntmps17
  go_wp2
  go_loop [3, 4] (fun a i => ∃ k : Nat, k ≤ l.length ∧ a = .string (strOfNums (textL (l.take k))) ∧ i = .int .i64 k) (fun _ i => l.length - (intOf i).toNat)
  case atStart => exact ⟨0, Nat.zero_le _, rfl, rfl⟩
  case round =>
    obtain ⟨k, hk, rfl, rfl⟩ := hrel
    by_cases hlt : k < l.length
    · obtain ⟨g, o, rfl, hg, hc⟩ := H.out (by omega)
      have e1 := hc k hlt
      have h1' : (k : Int) < (l.length : Int) := by omega
      have hz := strOfNums_size (textL (l.take k))
      rw [textL_len, List.length_take] at hz
      have hz2 : (strOfNums (textL (l.take k))).size ≤ 1000000000000 := by omega
      have hs := textL_take hlt
      have e48 : strOfNums [48] = ⟨#[48]⟩ := rfl
      have e49 : strOfNums [49] = ⟨#[49]⟩ := rfl
      have s48 := str_snoc (textL (l.take k)) 48
      have s49 := str_snoc (textL (l.take k)) 49
      rw [e48] at s48
      rw [e49] at s49
      have z48 : (⟨#[48]⟩ : ByteArray).size = 1 := rfl
      have z49 : (⟨#[49]⟩ : ByteArray).size = 1 := rfl
      clear hc hz e48 e49
      cases hv : lb l k
      · have HS : Hid (textL (l.take (k + 1)) = textL (l.take k) ++ [48]) := by show _ = _; rw [hs, hv]; rfl
        clear hs s49
        go_wp2
        go_round
        case rel => exact ⟨k + 1, by omega, by rw [HS.out], by go_num⟩
        case measure => simp [intOf]; omega
      · have HS : Hid (textL (l.take (k + 1)) = textL (l.take k) ++ [49]) := by show _ = _; rw [hs, hv]; rfl
        clear hs s48
        go_wp2
        go_round
        case rel => exact ⟨k + 1, by omega, by rw [HS.out], by go_num⟩
        case measure => simp [intOf]; omega
    · obtain rfl : k = l.length := by omega
      have HS : Hid (textL (l.take l.length) = textL l) := by show _ = _; rw [List.take_length]
      go_wp2
      go_ret
      exact ⟨by rw [← HS.out]; rfl, rfl⟩
end Go.Proofs.Yteoijhmaklocpaa
