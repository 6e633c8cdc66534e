/- The tables of keywords and operators; HasPrefix, isWord, skip of layer 29 (lexi), over the translation. -/
import Derived.Test.YtnmofkngengoeaaDoorBase
namespace Go.Proofs.YtnmofkngengoeaaDoor
open Go.RowKit Go.PlainAid

def words : List ByteArray := [⟨#[65]⟩, ⟨#[65, 70]⟩, ⟨#[65, 71]⟩, ⟨#[65, 88]⟩, ⟨#[69]⟩, ⟨#[69, 70]⟩, ⟨#[69, 71]⟩, ⟨#[69, 88]⟩, ⟨#[85]⟩, ⟨#[98, 111, 111, 108]⟩, ⟨#[100, 101, 102]⟩, ⟨#[101, 108, 115, 101]⟩, ⟨#[102, 97, 105, 114]⟩, ⟨#[102, 97, 108, 115, 101]⟩, ⟨#[105, 102]⟩, ⟨#[105, 110, 105, 116]⟩, ⟨#[105, 110, 118, 97, 114]⟩, ⟨#[109, 111, 100]⟩, ⟨#[110, 101, 120, 116]⟩, ⟨#[115, 112, 101, 99]⟩, ⟨#[116, 104, 101, 110]⟩, ⟨#[116, 114, 97, 110, 115]⟩, ⟨#[116, 114, 117, 101]⟩, ⟨#[118, 97, 114]⟩]
def signs : List ByteArray := [⟨#[60, 45, 62]⟩, ⟨#[58, 61]⟩, ⟨#[45, 62]⟩, ⟨#[46, 46]⟩, ⟨#[60, 61]⟩, ⟨#[33, 61]⟩, ⟨#[61]⟩, ⟨#[60]⟩, ⟨#[38]⟩, ⟨#[124]⟩, ⟨#[33]⟩, ⟨#[40]⟩, ⟨#[41]⟩, ⟨#[91]⟩, ⟨#[93]⟩, ⟨#[59]⟩, ⟨#[58]⟩, ⟨#[44]⟩, ⟨#[43]⟩, ⟨#[45]⟩, ⟨#[42]⟩]
/-- The two tables lie in w. -/
structure Glob (w : World) : Prop where
  ws : w.rangeAt 0 0 (words.map Value.string)
  ss : w.rangeAt 1 0 (signs.map Value.string)
  lt : 1 < w.heap.size
theorem Glob.step {w w' : World} (h : Glob w) (hb : Below w.heap.size w w') : Glob w' :=
  ⟨fun j v hv => (hb.cell (p := ⟨0, 0 + j, none⟩) (by have := h.lt; show 0 < w.heap.size; omega)).trans (h.ws j v hv), fun j v hv => (hb.cell (p := ⟨1, 0 + j, none⟩) h.lt).trans (h.ss j v hv), Nat.lt_of_lt_of_le h.lt hb.size⟩
def eqB (x y : ByteArray) : Bool := x.toList == y.toList
def wordQ (x : ByteArray) : Bool := words.any fun y => eqB x y
theorem load_words {w : World} (h : Glob w) : (Instr.loadAt 56 (.pointer (some ⟨0, 0, none⟩))).run Tryd.prog w = .ok (.agg (words.map Value.string).toArray) w :=
  run_loadAt_mid w 0 0 56 _ _ h.ws Tryd.underlying56 rfl (by kernel_rfl)
theorem load_signs {w : World} (h : Glob w) : (Instr.loadAt 58 (.pointer (some ⟨1, 0, none⟩))).run Tryd.prog w = .ok (.agg (signs.map Value.string).toArray) w :=
  run_loadAt_mid w 1 0 58 _ _ h.ss Tryd.underlying58 rfl (by kernel_rfl)
theorem index_words (k : Nat) (hk : k < 24) (w : World) : (Instr.index 56 (.agg (words.map Value.string).toArray) (.int .i64 (k : Int))).run Tryd.prog w = .ok (.string (words.getD k ByteArray.empty)) w := by
  rcases k with _ | _ | _ | _ | _ | _ | _ | _ | _ | _ | _ | _ | _ | _ | _ | _ | _ | _ | _ | _ | _ | _ | _ | _ | k
  all_goals first | (exfalso; omega) | kernel_rfl
theorem index_signs (k : Nat) (hk : k < 21) (w : World) : (Instr.index 58 (.agg (signs.map Value.string).toArray) (.int .i64 (k : Int))).run Tryd.prog w = .ok (.string (signs.getD k ByteArray.empty)) w := by
  rcases k with _ | _ | _ | _ | _ | _ | _ | _ | _ | _ | _ | _ | _ | _ | _ | _ | _ | _ | _ | _ | _ | k
  all_goals first | (exfalso; omega) | kernel_rfl
theorem any_at {l : List ByteArray} {f : ByteArray → Bool} (h : ∀ k, k < l.length → f (l.getD k ByteArray.empty) = false) : l.any f = false := by
  rw [List.any_eq_false]
  intro x hx
  obtain ⟨k, hk, rfl⟩ := List.getElem_of_mem hx
  have := h k hk
  rw [List.getD_eq_getElem?_getD, List.getElem?_eq_getElem hk] at this
  simpa using this
theorem any_yes {l : List ByteArray} {f : ByteArray → Bool} {k : Nat} (hk : k < l.length) (h : f (l.getD k ByteArray.empty) = true) : l.any f = true := by
  rw [List.any_eq_true]
  refine ⟨l[k], List.getElem_mem hk, ?_⟩
  rw [List.getD_eq_getElem?_getD, List.getElem?_eq_getElem hk] at h
  simpa using h
theorem words_len : words.length = 24 := rfl
theorem signs_len : signs.length = 21 := rfl
set_option maxHeartbeats 1000000 in
theorem lx_isWord (x : ByteArray) (w : World) (hG : Glob w) : Calls Tryd.prog 38 #[.string x] w fun e w' => e = .returned (.bool (wordQ x)) ∧ w = w' := by
  obtain ⟨Z, hZ⟩ : ∃ Z, words.map Value.string = Z := ⟨_, rfl⟩
  have hix := fun k hk => index_words k hk w
  have hws := hG.ws
  have hsz : (Tryd.prog.info? 56).map (·.size) = some (words.map Value.string).length := by kernel_rfl
  rw [hZ] at hix hws hsz
  have HIX := Lib.hid hix
  have HWS := Lib.hid hws
  have HSZ := Lib.hid hsz
  clear hix hws hsz hZ
  obtain ⟨q, hq⟩ : ∃ q, wordQ x = q := ⟨_, rfl⟩
  rw [hq]
  have HQ := Lib.hid hq
  clear hq
  go_enter Tryd.func38, Tryd.ntmps38
  go_wp2_with (refine wpList_load_mid rfl 56 (.global 0) rfl 0 0 rfl Z _ HWS.out Tryd.underlying56 rfl HSZ.out ?_)
  go_loopw [2, 6] (fun r i wr => ∃ k : Nat, r = .bool false ∧ k ≤ 24 ∧ i = .int .i64 (k : Int) ∧ Hid (∀ j, j < k → eqB x (words.getD j ByteArray.empty) = false) ∧ w = wr) (fun _ i _ => 24 - (intOf i).toNat)
  case atStart => exact ⟨0, rfl, Nat.zero_le _, rfl, Lib.hid (fun j hj => by omega), rfl⟩
  case round =>
    obtain ⟨k, rfl, hk, rfl, HK, rfl⟩ := hrel
    by_cases hlt : k < 24
    · have h1 : (k : Int) < 24 := by omega
      have hi := HIX.out k hlt
      obtain ⟨b, hb⟩ : ∃ b, (x.toList == (words.getD k ByteArray.empty).toList) = b := ⟨_, rfl⟩
      generalize hy : words.getD k ByteArray.empty = y at *
      cases b
      · have HN : Hid (∀ j, j < k + 1 → eqB x (words.getD j ByteArray.empty) = false) := Lib.hid (fun j hj => by
          rcases Nat.lt_or_ge j k with c | c
          · exact HK.out j c
          · have e : j = k := by omega
            rw [e, hy]; exact hb)
        clear hy
        go_wp2
        go_roundw
        case rel => exact ⟨k + 1, rfl, by omega, by go_num, HN, by first | rfl | trivial⟩
        case measure => simp [intOf]; try omega
      · have HX : Hid (q = true) := Lib.hid (by rw [← HQ.out]; exact any_yes (k := k) (by rw [words_len]; exact hlt) (by rw [hy]; exact hb))
        clear hy
        go_wp2
        go_ret
        exact ⟨by rw [HX.out]; rfl, rfl⟩
    · have h1 : ¬ (k : Int) < 24 := by omega
      have HX : Hid (q = false) := Lib.hid (by rw [← HQ.out]; exact any_at (fun j hj => HK.out j (by rw [words_len] at hj; omega)))
      go_wp2
      go_ret
      exact ⟨by rw [HX.out]; rfl, rfl⟩

/-- s begins with t. -/
def startsB (s : ByteArray) (t : ByteArray) : Bool := decide (t.size ≤ s.size) && eqB (s.extract 0 t.size) t
set_option maxHeartbeats 1000000 in
theorem lx_Prefix2 (s t : ByteArray) (w : World) : Calls Tryd.prog 42 #[.string s, .string t] w fun e w' => e = .returned (.bool (startsB s t)) ∧ w = w' := by
  unfold startsB eqB
  obtain ⟨b, hb⟩ : ∃ b, ((s.extract 0 t.size).toList == t.toList) = b := ⟨_, rfl⟩
  rw [hb]
  by_cases h : t.size ≤ s.size
  · have h1 : (t.size : Int) ≤ (s.size : Int) := by omega
    go_enter Tryd.func42, Tryd.ntmps42
    go_wp2
    go_ret
    exact ⟨by simp [h], rfl⟩
  · have h1 : ¬ (t.size : Int) ≤ (s.size : Int) := by omega
    go_enter Tryd.func42, Tryd.ntmps42
    go_wp2
    go_ret
    exact ⟨by simp [h], rfl⟩
theorem lx_Prefix (s t : ByteArray) (w : World) : Calls Tryd.prog 40 #[.string s, .string t] w fun e w' => e = .returned (.bool (startsB s t)) ∧ w = w' := by
  have H := Lib.hid (lx_Prefix2 s t w)
  go_enter Tryd.func40, Tryd.ntmps40
  go_wp2_with (go_at_call 42; with_reducible refine H.out.mono ?_; rintro e w1 ⟨rfl, rfl⟩)
  go_ret
  exact ⟨rfl, rfl⟩
end Go.Proofs.YtnmofkngengoeaaDoor
