/- few: whether the arguments are small; layer 42 (sched). -/
import Derived.Test.YtjohdkcgodaeiaaR2
import Derived.Test.YtjohdkcgodaeiaaS0
namespace Go.Proofs.Ytjohdkcgodaeiaa
open Go.RowKit

def FewP (rows : List Rw) (o : List Int) (T : List St) : Prop := (∀ j, j < rows.length → (pr rows j).length ≤ 10) ∧ (∀ k, k < T.length → (stAt T k).2.2.2.length ≤ 10) ∧ rows.length ≤ 8 ∧ o.length ≤ 12 ∧ T.length ≤ 10
def FewR (w : World) (rows : List Rw) (o : List Int) (T : List St) (e : Ending) (w' : World) : Prop := ∃ q, e = .returned (.bool q) ∧ (q = true → FewP rows o T) ∧ Below w.heap.size w w'
set_option maxRecDepth 100000 in
set_option maxHeartbeats 8000000 in
theorem law_few (A AO AL : Option Addr) (ca co cl : Nat) (rows : List Rw) (o : List Int) (T : List St) (w : World) (hP : RR w w.heap.size A rows) (hT : StP w AL T)
    (hr : rows.length ≤ maxLen) (hlo : o.length ≤ maxLen) (hlt : T.length ≤ maxLen) (hlp : ∀ j, j < rows.length → (pr rows j).length ≤ maxLen) (hls : ∀ k, k < T.length → (stAt T k).2.2.2.length ≤ maxLen) :
    Calls Try.prog 6 #[.slice A rows.length ca, .slice AO o.length co, .slice AL T.length cl] w (FewR w rows o T) := by
  unfold maxLen at hr hlo hlt
  have HP := Lib.hid hP
  have HT := Lib.hid hT
  have HLP := Lib.hid hlp
  have HLS := Lib.hid hls
  clear hP hT hlp hls
  go_enter Try.func6, Try.ntmps6
  go_wp2
  go_loopw [13] (fun i wr => ∃ k : Nat, k ≤ rows.length ∧ i = .int .i64 (k : Int) ∧ Hid (∀ j, j < k → (pr rows j).length ≤ 10) ∧ wr = w) (fun i _ => rows.length - (intOf i).toNat)
  case atStart => exact ⟨0, Nat.zero_le _, rfl, Lib.hid (fun j hj => absurd hj (by omega)), rfl⟩
  case round =>
    obtain ⟨k, hk, rfl, HK, rfl⟩ := hrel
    by_cases hkl : k < rows.length
    · have h1 : (k : Int) < (rows.length : Int) := by omega
      have h0 : (0 : Int) ≤ (k : Int) := by omega
      obtain ⟨b, off, rfl, hb, hc⟩ := HP.out.at_ (by omega)
      have c1 := hc k hkl
      have hl := HLP.out k hkl
      unfold maxLen at hl
      unfold rcell at c1
      have HPR : Hid (pr rows k = (rw_ rows k).2.2) := Lib.hid rfl
      unfold pr at hl
      obtain ⟨⟨Ak, ck, l⟩, hrk⟩ : ∃ r, rw_ rows k = r := ⟨_, rfl⟩
      rw [hrk] at c1 hl HPR
      dsimp only at c1 hl HPR
      clear hc hrk
      by_cases hl10 : l.length ≤ 10
      · have g1 : ¬ (10 : Int) < (l.length : Int) := by omega
        have HN : Hid (∀ j, j < k + 1 → (pr rows j).length ≤ 10) := Lib.hid (fun j hj => by
          by_cases e : j = k
          · subst e; rw [HPR.out]; exact hl10
          · exact HK.out j (by omega))
        go_wp2
        go_roundw
        case rel => exact ⟨k + 1, by omega, by go_num, HN, trivial⟩
        case measure => simp [intOf]; omega
      · have g1 : (10 : Int) < (l.length : Int) := by omega
        go_wp2
        go_ret
        exact ⟨false, rfl, (fun e => by cases e), Below.refl _ _⟩
    · obtain rfl : k = rows.length := by omega
      have h1 : ¬ (rows.length : Int) < (rows.length : Int) := by omega
      go_wp2
      go_loopw [23] (fun i w2 => ∃ k : Nat, k ≤ T.length ∧ i = .int .i64 (k : Int) ∧ Hid (∀ j, j < k → (stAt T j).2.2.2.length ≤ 10) ∧ Below wr.heap.size wr w2) (fun i _ => T.length - (intOf i).toNat)
      case atStart => exact ⟨0, Nat.zero_le _, rfl, Lib.hid (fun j hj => absurd hj (by omega)), Below.refl _ _⟩
      case round =>
        obtain ⟨k, hk2, rfl, HK2, hb⟩ := hrel
        have HB := Lib.hid hb
        by_cases hkl : k < T.length
        · have h2 : (k : Int) < (T.length : Int) := by omega
          have h0 : (0 : Int) ≤ (k : Int) := by omega
          obtain ⟨bt, ot, rfl, hbt, hct⟩ := (HT.out.step hb).1 (by omega)
          obtain ⟨c1, c2⟩ := hct k hkl
          have hl := HLS.out k hkl
          unfold maxLen at hl
          unfold rcell at c2
          obtain ⟨⟨x, Ak, ck, l⟩, hrk⟩ : ∃ r, stAt T k = r := ⟨_, rfl⟩
          have HPR : Hid ((stAt T k).2.2.2 = l) := Lib.hid (by rw [hrk])
          rw [hrk] at c1 c2 hl
          dsimp only at c1 c2 hl
          clear hct hrk hb
          by_cases hl10 : l.length ≤ 10
          · have g1 : ¬ (10 : Int) < (l.length : Int) := by omega
            have HN : Hid (∀ j, j < k + 1 → (stAt T j).2.2.2.length ≤ 10) := Lib.hid (fun j hj => by
              by_cases e : j = k
              · subst e; rw [HPR.out]; exact hl10
              · exact HK2.out j (by omega))
            go_wp2
            go_roundw
            case rel => exact ⟨k + 1, by omega, by go_num, HN, HB.out.alloc HB.out.size _⟩
            case measure => simp [intOf]; omega
          · have g1 : (10 : Int) < (l.length : Int) := by omega
            go_wp2
            go_ret
            exact ⟨false, rfl, (fun e => by cases e), HB.out.alloc HB.out.size _⟩
        · obtain rfl : k = T.length := by omega
          have h2 : ¬ (T.length : Int) < (T.length : Int) := by omega
          clear hb
          by_cases q1 : rows.length ≤ 8
          · have q1' : (rows.length : Int) ≤ 8 := by omega
            by_cases q2 : o.length ≤ 12
            · have q2' : (o.length : Int) ≤ 12 := by omega
              by_cases q3 : T.length ≤ 10
              · have q3' : (T.length : Int) ≤ 10 := by omega
                have HF : Hid (FewP rows o T) := Lib.hid ⟨HK.out, HK2.out, q1, q2, q3⟩
                go_wp2
                go_ret
                exact ⟨true, rfl, fun _ => HF.out, HB.out⟩
              · have q3' : ¬ (T.length : Int) ≤ 10 := by omega
                go_wp2
                go_ret
                exact ⟨false, rfl, (fun e => by cases e), HB.out⟩
            · have q2' : ¬ (o.length : Int) ≤ 12 := by omega
              go_wp2
              go_ret
              exact ⟨false, rfl, (fun e => by cases e), HB.out⟩
          · have q1' : ¬ (rows.length : Int) ≤ 8 := by omega
            go_wp2
            go_ret
            exact ⟨false, rfl, (fun e => by cases e), HB.out⟩
end Go.Proofs.Ytjohdkcgodaeiaa
