/- Contracts of Right and trim of layer 4 (cnt), over the translation. -/
import Derived.Test.YtjnabmchejdhpaaBase
import Derived.Test.YtjnabmchejdhpaaCmath2
namespace Go.Proofs.Ytjnabmchejdhpaa
open Go.RowKit

theorem nrm_at {l : List Int} (h : 0 < l.length) : nrm l = (li l (l.length - 1) != 0) := by
  obtain ⟨t, d, rfl⟩ := snoc_of (l := l) (fun e => by rw [e] at h; simp at h)
  rw [nrm_snoc]
  unfold li
  simp [List.getD]
theorem RI.take {w : World} {B : Nat} {A : Option Addr} {l : List Int} (h : RI w B A l) (k : Nat) : RI w B A (l.take k) := fun hp => by
  have hl : 0 < l.length := by rw [List.length_take] at hp; omega
  obtain ⟨b, off, e, hB, hc⟩ := h hl
  refine ⟨b, off, e, hB, fun i hi => ?_⟩
  rw [List.length_take] at hi
  rw [hc i (by omega)]
  unfold li
  simp [List.getD, show i < k by omega]
theorem trimN_self {l : List Int} {k : Nat} (h : k ≤ l.length) (hn : nrm (l.take k) = true) : trimN l k = k := by
  rcases k with _ | k
  · rfl
  · rw [take_snoc (by omega), nrm_snoc] at hn
    unfold trimN
    rw [if_neg (by simpa using hn)]
theorem trimN_pred {l : List Int} {k : Nat} (h : k ≤ l.length) (h0 : 0 < k) (hn : nrm (l.take k) = false) : trimN l k = trimN l (k - 1) := by
  obtain ⟨j, rfl⟩ : ∃ j, k = j + 1 := ⟨k - 1, by omega⟩
  rw [take_snoc (by omega), nrm_snoc] at hn
  conv => lhs; unfold trimN
  rw [if_pos (by simpa using hn)]
  rfl
theorem step2 {w w1 w2 : World} (h : Below w.heap.size w w1) (h2 : Below w1.heap.size w1 w2) : Below w.heap.size w w2 := h.trans (h2.mono h.size)

set_option maxHeartbeats 1000000 in
theorem cnt_Right (A : Option Addr) (ca : Nat) (l : List Int) (w : World) (h : RI w w.heap.size A l) (hl : l.length ≤ 1000000000000) :
    Calls Try.prog 16 #[.slice A l.length ca] w fun e w' => e = .returned (.bool (nrm l)) ∧ Below w.heap.size w w' := by
  have H := Lib.hid h
  clear h
  by_cases c : l.length = 0
  · have h0 : (l.length : Int) = 0 := by omega
    have HN : Hid (nrm l = true) := Lib.hid (by rw [List.eq_nil_of_length_eq_zero c]; rfl)
    go_enter Try.func16, Try.ntmps16
    go_wp2
    go_ret
    exact ⟨by rw [HN.out]; rfl, Below.refl _ _⟩
  · obtain ⟨b, o, rfl, hg, hc⟩ := H.out (by omega)
    have e1 := hc (l.length - 1) (by omega)
    have h0 : ¬ (l.length : Int) = 0 := by omega
    have ei : ((l.length - 1 : Nat) : Int) = (l.length : Int) - 1 := by omega
    have HN := Lib.hid (nrm_at (l := l) (by omega))
    have hne : l ≠ [] := fun e => c (by rw [e]; rfl)
    clear hc
    go_enter Try.func16, Try.ntmps16
    go_wp2
    go_ret
    exact ⟨by rw [HN.out]; simp [hne], Below.refl _ _⟩

set_option maxHeartbeats 1000000 in
theorem cnt_trim (A : Option Addr) (ca : Nat) (l : List Int) (w : World) (h : RI w w.heap.size A l) (hl : l.length ≤ 1000000000000) (hca : l.length ≤ ca) (_hca2 : ca ≤ maxLen) :
    Calls Try.prog 36 #[.slice A l.length ca] w fun e w' => e = .returned (.slice A (trimL l).length ca) ∧ Below w.heap.size w w' := by
  have H := Lib.hid h
  clear h
  go_enter Try.func36, Try.ntmps36
  go_wp2
  go_loopw [0] (fun v wr => ∃ k : Nat, k ≤ l.length ∧ v = .slice A k ca ∧ Hid (trimN l k = trimN l l.length) ∧ Below w.heap.size w wr) (fun v _ => match v with | .slice _ k _ => k | _ => 0)
  case atStart => exact ⟨l.length, Nat.le_refl _, rfl, Lib.hid rfl, Below.refl _ _⟩
  case round =>
    obtain ⟨k, hk, rfl, HT, hb⟩ := hrel
    have ek : (l.take k).length = k := take_len hk
    have HC := Lib.hid (cnt_Right A ca (l.take k) wr ((H.out.take k).step hb) (by omega))
    rw [ek] at HC
    by_cases hn : nrm (l.take k) = true
    · have HK : Hid (k = (trimL l).length) := Lib.hid (by rw [trimL_len, ← HT.out]; exact (trimN_self (by omega) hn).symm)
      go_wp2_with (first
        | (go_at_call 16; refine HC.out.mono ?_; rintro e w1 ⟨rfl, hb1⟩; rw [hn]))
      go_ret
      exact ⟨by rw [← HK.out]; rfl, step2 hb hb1⟩
    · rw [Bool.not_eq_true] at hn
      have hk0 : 0 < k := by
        rcases Nat.eq_zero_or_pos k with rfl | h
        · simp [nrm_nil] at hn
        · exact h
      have HK : Hid (trimN l (k - 1) = trimN l l.length) := Lib.hid (by rw [← HT.out]; exact (trimN_pred hk hk0 hn).symm)
      obtain ⟨b, o, rfl, hg, hc⟩ := H.out (by omega)
      clear hc
      go_wp2_with (first
        | (go_at_call 16; refine HC.out.mono ?_; rintro e w1 ⟨rfl, hb1⟩; rw [hn]))
      go_roundw
      case rel => exact ⟨k - 1, by omega, by go_num, HK, step2 hb hb1⟩
      case measure => simp; omega
end Go.Proofs.Ytjnabmchejdhpaa
