/- The specification's In, Texts and With over rows of texts; layer 30 (terms). -/
import Derived.Test.YtcdpjodnbegepaaNb
namespace Go.Proofs.Ytcdpjodnbegepaa
open Go.RowKit

theorem bs_list (l : Bs) : (bs l).toList = l := by rw [ByteArray.toList_eq]; rfl
theorem key_list (m : ByteArray) : m.toList = key m := ByteArray.toList_eq m
theorem tx_mem {l : List Bs} {x : Bs} : x ∈ l ↔ ∃ k, k < l.length ∧ tx l k = x := by
  rw [List.mem_iff_getElem]
  constructor
  · rintro ⟨k, hk, e⟩
    exact ⟨k, hk, by unfold tx; simp [List.getD, List.getElem?_eq_getElem hk, e]⟩
  · rintro ⟨k, hk, e⟩
    refine ⟨k, hk, ?_⟩
    unfold tx at e
    simpa [List.getD, List.getElem?_eq_getElem hk] using e
theorem tx_drop {l : List Bs} {k : Nat} (h : k < l.length) : l.drop k = tx l k :: l.drop (k + 1) := by
  unfold tx
  rw [List.drop_eq_getElem_cons h]
  simp [List.getD, List.getElem?_eq_getElem h]
theorem cmp_eq (x : Bs) (m : ByteArray) : ((bs x).toList == m.toList) = decide (x = key m) := by
  rw [bs_list, key_list]
  by_cases h : x = key m
  · rw [h]; simp
  · rw [decide_eq_false h]; exact beq_eq_false_iff_ne.2 h
set_option maxHeartbeats 2000000 in
theorem rf_In (l : List Bs) (A : Option Addr) (c : Nat) (m : ByteArray) (w : World) (hT : RT w w.heap.size A l) (hl : l.length ≤ 1000000000) :
    Calls Try.prog 82 #[.slice A l.length c, .string m] w fun e w' => e = .returned (.bool (decide (key m ∈ l))) ∧ w = w' := by
  have HT := Lib.hid hT
  obtain ⟨R, hR⟩ : ∃ R, decide (key m ∈ l) = R := ⟨_, rfl⟩
  have HR := Lib.hid hR
  rw [hR]
  clear hR hT
  go_enter Try.func82, Try.ntmps82
  go_wp2
  go_loopw [5] (fun i wr => ∃ k : Nat, k ≤ l.length ∧ i = .int .i64 (k : Int) ∧ Hid (∀ j, j < k → ((bs (tx l j)).toList == m.toList) = false) ∧ w = wr) (fun i _ => l.length - (intOf i).toNat)
  case atStart => exact ⟨0, Nat.zero_le _, rfl, Lib.hid (fun j hj => by omega), rfl⟩
  case round =>
    obtain ⟨k, hk, rfl, HK, rfl⟩ := hrel
    by_cases hlt : k < l.length
    · have l1 : (k : Int) < (l.length : Int) := by omega
      obtain ⟨b, f0, rfl, hbl, hc⟩ := HT.out (by omega)
      have d0 := hc k hlt
      clear hc
      obtain ⟨q, hq⟩ : ∃ q, ((bs (tx l k)).toList == m.toList) = q := ⟨_, rfl⟩
      have HQ := Lib.hid hq
      generalize tx l k = v at d0 hq
      cases q
      · have HK2 : Hid (∀ j, j < k + 1 → ((bs (tx l j)).toList == m.toList) = false) := Lib.hid (fun j hj => by
          rcases (by omega : j < k ∨ j = k) with h | rfl
          · exact HK.out j h
          · exact HQ.out)
        go_wp2
        go_roundw
        case rel => exact ⟨k + 1, by omega, by go_num, HK2, by first | rfl | trivial⟩
        case measure => simp [intOf]; try omega
      · have X : Hid (R = true) := Lib.hid (by rw [← HR.out]; have h := HQ.out; rw [cmp_eq] at h; exact decide_eq_true (tx_mem.2 ⟨k, hlt, of_decide_eq_true h⟩))
        obtain rfl := X.out
        go_wp2
        go_ret
        exact ⟨rfl, by first | rfl | trivial⟩
    · have l1 : ¬ (k : Int) < (l.length : Int) := by omega
      obtain rfl : k = l.length := by omega
      have X : Hid (R = false) := Lib.hid (by
        rw [← HR.out]
        refine decide_eq_false (fun h => ?_)
        obtain ⟨j, hj, e⟩ := tx_mem.1 h
        have := HK.out j hj
        rw [cmp_eq] at this
        exact of_decide_eq_false this e)
      obtain rfl := X.out
      go_wp2
      go_ret
      exact ⟨rfl, by first | rfl | trivial⟩
set_option maxHeartbeats 2000000 in
/-- Two rows of the same texts are equal. -/
theorem rf_Texts (l : List Bs) (A B : Option Addr) (c d : Nat) (w : World) (hT : RT w w.heap.size A l) (hU : RT w w.heap.size B l) (hl : l.length ≤ 1000000000) :
    Calls Try.prog 16 #[.slice A l.length c, .slice B l.length d] w fun e w' => e = .returned (.bool true) ∧ Below w.heap.size w w' := by
  have HT := Lib.hid hT
  have HU := Lib.hid hU
  have g1 : ((l.length : Int) != (l.length : Int)) = false := by simp
  clear hT hU
  go_enter Try.func16, Try.ntmps16
  go_wp2
  go_loopw [5] (fun i wr => ∃ k : Nat, k ≤ l.length ∧ i = .int .i64 (k : Int) ∧ Hid (Below w.heap.size w wr)) (fun i _ => l.length - (intOf i).toNat)
  case atStart => exact ⟨0, Nat.zero_le _, rfl, Lib.hid (Below.refl _ _)⟩
  case round =>
    obtain ⟨k, hk, rfl, HB⟩ := hrel
    by_cases hlt : k < l.length
    · have l1 : (k : Int) < (l.length : Int) := by omega
      have l0 : (0 : Int) ≤ (k : Int) := by omega
      obtain ⟨b, f0, rfl, hbl, hc⟩ := HT.out (by omega)
      obtain ⟨b2, f2, rfl, hbl2, hc2⟩ := HU.out (by omega)
      have d0 := (HB.out.cell (p := ⟨b, f0 + k, none⟩) hbl).trans (hc k hlt)
      have d1 := (HB.out.cell (p := ⟨b2, f2 + k, none⟩) hbl2).trans (hc2 k hlt)
      clear hc hc2
      generalize tx l k = v at d0 d1
      have g2 : ((bs v).toList == (bs v).toList) = true := by simp
      have g3 : ((bs v).toList != (bs v).toList) = false := by simp
      go_wp2
      go_big_quiet (fail)
      go_wp2
      go_roundw
      case rel => exact ⟨k + 1, by omega, by go_num, Lib.hid (by first | exact below_drewN HB.out _ | exact HB.out)⟩
      case measure => simp [intOf]; try omega
    · have l1 : ¬ (k : Int) < (l.length : Int) := by omega
      obtain rfl : k = l.length := by omega
      go_wp2
      go_ret
      exact ⟨rfl, HB.out⟩
/-- append of one text, in a plain region. -/
theorem wpList_app_txt {ops : Array Oper} {rest : List Oper} {o : Oper} {a : Act} {Q : Exit → Act → World → Prop} (hgd : o.guard = none) (s x : Operand)
    (ho : o.op = .call { callee := .builtin .append, args := #[s, x], argTypes := #[27, 27] }) (W : World) (B n : Nat) (v : Value) (l : List Bs) (hln : l.length = n) (hs : a.eval s = v) (hrow : OwnX W B v l) (ad : Addr) (y : Bs)
    (hx : a.eval x = .slice (some ad) 1 1) (hc : ∀ j u, [encT y][j]? = some u → W.cell? (ad.add j) = some u) (hB : B ≤ W.heap.size) (hn : n ≤ 1000000000)
    (h : ∀ A' c' w', OwnX w' B (.slice A' (n + 1) c') (l ++ [y]) → Below B W w' → wpList Try.prog ops Q rest (a.put o.dst (.slice A' (n + 1) c')) w') : wpList Try.prog ops Q (o :: rest) a W := by
  subst hln
  obtain ⟨i0, hi0, hz0, hz1, hz2⟩ := info_parts info9
  refine wpList_append_own_at _ hgd s x 27 ho B 9 i0 _ 1 16 Try.underlying27 hi0 hz0 hz1 hz2 rfl (by decide) v l.length (l.map encT) hs hrow ad 1 1 [encT y] hx rfl hc (by simp [Value.oneCell']) (by unfold maxLen; omega) (by omega) hB ?_
  intro v' w' hO hg _ _
  have ho2 : OwnX w' B v' (l ++ [y]) := OwnX.push hO
  obtain ⟨A', c', e, _⟩ := ho2.form
  rw [List.length_append] at e
  have e2 : v' = .slice A' (l.length + 1) c' := e
  subst e2
  exact h A' c' w' ho2 ((Below.refl _ _).grown hg hB (fun k e => (World.ownsRow.lt hrow k e).1))
def TxP (l : List Bs) (w : World) (e : Ending) (w' : World) : Prop := ∃ A c, e = .returned (.slice A l.length c) ∧ RT w' w'.heap.size A l ∧ Below w.heap.size w w'
end Go.Proofs.Ytcdpjodnbegepaa
