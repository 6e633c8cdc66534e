/- The contracts of the specification's digits and Text, over the translation. -/
import Derived.Test.YtipapemcedkinaaN1
import Derived.Laws.BytesArg
namespace Go.Proofs.Ytipapemcedkinaa
open Go.RowKit

theorem one_str (w : World) (g : Nat) (d : Int) (c : Nat) (hB : Blk w g 5 #[.int .u8 d]) :
    (convert 51 9 (.slice (some ⟨g, 0, none⟩) 1 c)).run Try.prog w = .ok (.string (strOfNums [d])) w :=
  run_convert_bytes_arg w 51 5 Try.underlying51 Try.underlying5 g 0 1 c [d] rfl (fun i hi => by
    have : i = 0 := by omega
    subst this; rw [hB.cell]; rfl) 9 Try.underlying9
theorem str_cons (d : Int) (ds : List Int) : strOfNums [d] ++ strOfNums ds = strOfNums (d :: ds) := by
  apply ByteArray.ext
  simp [strOfNums]

def szV : Value → Nat
  | .string s => 1 - s.size
  | _ => 0
set_option maxHeartbeats 1000000 in
theorem ref_digits (N : Nat) (w : World) (hN3 : N ≤ 9223372036854775808) :
    Calls Try.prog 46 #[.int .u64 (N : Int)] w fun r w' => r = .returned (.string (strOfNums (digs N))) ∧ Below w.heap.size w w' := by
  go_enter Try.func46, Try.ntmps46
  go_wp2
  go_loopw [0, 3] (fun a b wr => ∃ (r : Nat) (ds : List Int), a = .int .u64 (r : Int) ∧ b = .string (strOfNums ds) ∧ r ≤ N ∧ DInv N r ds ∧ (ds = [] ∨ r = 0 ∨ 10 ≤ r) ∧ ds.length ≤ 20 ∧ Below w.heap.size w wr) (fun a b _ => 2 * (intOf a).toNat + szV b)
  case atStart =>
    exact ⟨N, [], rfl, rfl, Nat.le_refl _, DInv.start N, .inl rfl, by simp, Below.refl _ _⟩
  case round =>
    obtain ⟨r, ds, rfl, rfl, hrN, hI, hd, hL, hb⟩ := hrel
    have hlen : 0 < r → ds.length ≤ 18 := fun h => hI.len (by omega) h
    by_cases hc : 9 < r
    · have HI := Lib.hid (hI.step (.inl (by omega)))
      have hst := one_str (wr.alloc (.cells #[.int .u8 (48 + (r : Int) % 10)] 5)) wr.heap.size (48 + (r : Int) % 10) 1 (Blk.new _ _ _)
      have hcc := str_cons (48 + (r : Int) % 10) ds
      have hz1 : (strOfNums [48 + (r : Int) % 10]).size = 1 := by rw [strOfNums_size]; rfl
      have hz2 := strOfNums_size ds
      have hL2 : ds.length ≤ 19 := by have := hlen (by omega); omega
      clear hI hd hlen
      by_cases h1 : r / 10 < 10
      · have hst2 := one_str ((wr.alloc (.cells #[.int .u8 (48 + (r : Int) % 10)] 5)).alloc (.cells #[.int .u8 (48 + (r : Int) / 10)] 5)) (wr.alloc (.cells #[.int .u8 (48 + (r : Int) % 10)] 5)).heap.size (48 + (r : Int) / 10) 1 (Blk.new _ _ _)
        simp only [World.size_alloc] at hst2
        have hcc2 := str_cons (48 + (r : Int) / 10) ((48 + (r : Int) % 10) :: ds)
        have hz3 : (strOfNums [48 + (r : Int) / 10]).size = 1 := by rw [strOfNums_size]; rfl
        have hz4 := strOfNums_size ((48 + (r : Int) % 10) :: ds)
        simp only [List.length_cons] at hz4
        have hfin : (48 + (r : Int) / 10) :: (48 + (r : Int) % 10) :: ds = digs N := by
          have h2 := HI.out
          rcases h2 with ⟨h2, _⟩ | ⟨_, h2⟩
          · cases h2
          · rw [← h2, pre_pos (by omega), show r / 10 / 10 = 0 by omega, pre_zero]
            simp; omega
        have HF := Lib.hid hfin
        clear hfin
        go_wp2
        go_ret
        exact ⟨by rw [← HF.out]; rfl, (hb.alloc hb.size _).alloc (by have := hb.size; simp; omega) _⟩
      · go_wp2
        go_roundw
        case rel => exact ⟨r / 10, _, by go_num, rfl, by omega, HI.out, by omega, by simp; omega, hb.alloc hb.size _⟩
        case measure => simp [intOf, szV, strOfNums_size]; omega
    · by_cases hd0 : ds = []
      · have HI := Lib.hid (hI.step (.inr hd0))
        subst hd0
        have hst := one_str (wr.alloc (.cells #[.int .u8 (48 + (r : Int) % 10)] 5)) wr.heap.size (48 + (r : Int) % 10) 1 (Blk.new _ _ _)
        have hz1 : (strOfNums [48 + (r : Int) % 10]).size = 1 := by rw [strOfNums_size]; rfl
        have he : (strOfNums []).toList = [] := by rw [ByteArray.toList_eq]; rfl
        clear hI hd hlen
        go_wp2
        go_roundw
        case rel => exact ⟨r / 10, _, by go_num, by rw [str_cons]; rfl, by omega, HI.out, by omega, by simp, hb.alloc hb.size _⟩
        case measure => simp [intOf, szV, strOfNums_size, str_cons]; omega
      · have hfin : ds = digs N := by
          have : r = 0 := by rcases hd with h | h | h; exact absurd h hd0; exact h; omega
          subst this
          exact hI.done hd0
        have HF := Lib.hid hfin
        have he : (strOfNums ds).toList.isEmpty = false := by
          rcases ds with _ | ⟨d, ds⟩
          · exact absurd rfl hd0
          · rw [ByteArray.toList_eq]; rfl
        clear hI hd hlen hfin hd0
        go_wp2
        go_ret
        exact ⟨by rw [← HF.out]; rfl, hb⟩

def textF (n : Int) : List Int := if n < 0 then 45 :: digs n.natAbs else digs n.natAbs
theorem ref_Text (n : Int) (w : World) (n1 : -9223372036854775808 ≤ n) (n2 : n ≤ 9223372036854775807) :
    Calls Try.prog 37 #[.int .i64 n] w fun r w' => r = .returned (.string (strOfNums (textF n))) ∧ Below w.heap.size w w' := by
  have ea : absF n = ((n.natAbs : Nat) : Int) := by unfold absF; split <;> omega
  obtain ⟨N, hN⟩ : ∃ N, n.natAbs = N := ⟨_, rfl⟩
  rw [hN] at ea
  have hN3 : N ≤ 9223372036854775808 := by omega
  have hz := strOfNums_size (digs N)
  have hz2 := digs_len N 19 (by omega) (by omega)
  have h45 := str_cons 45 (digs N)
  have e45 : strOfNums [45] = ⟨#[45]⟩ := rfl
  rw [e45] at h45
  by_cases hn : n < 0
  · have ht : textF n = 45 :: digs N := by unfold textF; rw [if_pos hn, hN]
    rw [ht]
    clear hN e45
    go_enter Try.func37, Try.ntmps37
    go_wp2_with (first
        | (go_at_call 47; refine (ref_size _ _ (by omega) (by omega)).mono ?_; rintro e w' ⟨rfl, rfl⟩; rw [ea])
        | (go_at_call 46; refine (ref_digits _ _ (by omega)).mono ?_; rintro e w1 ⟨rfl, hb1⟩))
    go_ways
    go_ret
    exact ⟨rfl, hb1⟩
  · have ht : textF n = digs N := by unfold textF; rw [if_neg hn, hN]
    rw [ht]
    clear hN e45
    go_enter Try.func37, Try.ntmps37
    go_wp2_with (first
        | (go_at_call 47; refine (ref_size _ _ (by omega) (by omega)).mono ?_; rintro e w' ⟨rfl, rfl⟩; rw [ea])
        | (go_at_call 46; refine (ref_digits _ _ (by omega)).mono ?_; rintro e w1 ⟨rfl, hb1⟩))
    go_ret
    exact ⟨rfl, hb1⟩
end Go.Proofs.Ytipapemcedkinaa
