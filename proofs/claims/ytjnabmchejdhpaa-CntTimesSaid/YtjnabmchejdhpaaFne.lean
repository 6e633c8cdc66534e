/- Contract of divide of layer 4 (cnt) at the divisor 10^9, over the translation. -/
import Derived.Test.YtjnabmchejdhpaaFnd
namespace Go.Proofs.Ytjnabmchejdhpaa
open Go.RowKit

theorem take_keep {s t : List Int} {k : Nat} {y : Int} (h : t.take (k + 1) = s.take (k + 1)) : (t.set k y).take k = s.take k := by
  rw [List.take_set_of_le (Nat.le_refl _)]
  have := congrArg (List.take k) h
  rwa [List.take_take, List.take_take, Nat.min_eq_left (by omega)] at this
theorem take_at {s t : List Int} {k : Nat} (_hs : k < s.length) (_ht : k < t.length) (h : t.take (k + 1) = s.take (k + 1)) : li t k = li s k := by
  have := congrArg (fun l => List.getD l k 0) h
  unfold li
  simpa [List.getD, List.getElem?_take] using this
theorem div_step {s t : List Int} {k : Nat} {R : Int} (hs : k < s.length) (ht : k < t.length) (h : val (s.drop (k + 1)) = val (t.drop (k + 1)) * 1000000000 + R) :
    val (s.drop k) = val ((t.set k ((R * 4294967296 + li s k) / 1000000000)).drop k) * 1000000000 + (R * 4294967296 + li s k) % 1000000000 := by
  rw [drop_set0 t ht, val_drop hs]
  have e : s.getD k 0 = li s k := rfl
  rw [e]
  show _ = ((R * 4294967296 + li s k) / 1000000000 + 4294967296 * val (t.drop (k + 1))) * 1000000000 + _
  omega
/-- Nothing but the row of v has changed. -/
def Only (v : Value) (w w' : World) : Prop := ∀ h, v.ownBlock ≠ some h → w'.heap[h]? = w.heap[h]?
theorem Only.refl (v : Value) (w : World) : Only v w w := fun _ _ => rfl
theorem Only.set {v : Value} {w wr : World} {g : Nat} (h : Only v w wr) (e : v.ownBlock = some g) (k : Nat) (u : Value) : Only v w (wr.setCell ⟨g, k, none⟩ u) := fun b hb => by
  rw [← h b hb]
  have : g ≠ b := fun e2 => hb (by rw [e, e2])
  simp [World.setCell, Array.getElem?_modify, this]
set_option maxHeartbeats 2000000 in
theorem cnt_divide (B : Nat) (v : Value) (s : List Int) (w : World) (hO : Own w B v s) (_hB : B ≤ w.heap.size) (hs : Dig s) (hsl : s.length ≤ 1000000000) :
    Calls Try.prog 43 #[v, .int .u32 1000000000] w fun e w' => ∃ R t, e = .returned (.int .u32 R) ∧ Own w' B v t ∧ Dig t ∧ t.length = s.length ∧ val s = val t * 1000000000 + R ∧ 0 ≤ R ∧ R < 1000000000 ∧ Below B w w' ∧ Only v w w' := by
  obtain ⟨A, c0, rfl, hcl, hcm, _, _⟩ := hO.len_cap
  have HO := Lib.hid hO
  have HS := Lib.hid hs
  clear hO hs
  go_enter Try.func43, Try.ntmps43
  go_wp2
  go_loopw [5, 6] (fun c i wr => ∃ (k : Nat) (R : Int) (t : List Int), k ≤ s.length ∧ i = .int .i64 ((k : Int) - 1) ∧ c = .int .u64 R ∧ 0 ≤ R ∧ R < 1000000000 ∧ t.length = s.length ∧ Hid (Own wr B (.slice A s.length c0) t ∧ Dig t ∧ t.take k = s.take k ∧ val (s.drop k) = val (t.drop k) * 1000000000 + R) ∧ Below B w wr ∧ Hid (Only (.slice A s.length c0) w wr)) (fun _ i _ => (intOf i + 1).toNat)
  case atStart => exact ⟨s.length, 0, s, Nat.le_refl _, rfl, rfl, by omega, by omega, rfl, Lib.hid ⟨HO.out, HS.out, rfl, by rw [List.drop_length]; rfl⟩, Below.refl _ _, Lib.hid (Only.refl _ _)⟩
  case round =>
    obtain ⟨k, R, t, hk, rfl, rfl, hR0, hR1, htl, HT, hb, HN⟩ := hrel
    rcases k with _ | k
    · have h0 : ¬ (0 : Int) ≤ ((0 : Nat) : Int) - 1 := by omega
      have hRm : R % 4294967296 = R := Int.emod_eq_of_lt hR0 (by omega)
      go_wp2
      go_ret
      exact ⟨R, rfl, t, HT.out.1, HT.out.2.1, htl, HT.out.2.2.2, hR0, hR1, hb, HN.out⟩
    · have ek : ((k + 1 : Nat) : Int) - 1 = (k : Int) := by omega
      rw [ek]
      have h1' : (k : Int) < (s.length : Int) := by omega
      have h0' : (0 : Int) ≤ (k : Int) := by omega
      have ea := take_at (by omega) (by omega) HT.out.2.2.1
      obtain ⟨g, cp, ev, hg1, hg2, e3, hfz, hset⟩ := HT.out.1.at (i := k) (by omega)
      injection ev with ev1 ev2 ev3
      subst ev1 ev3
      clear ev2
      rw [ea] at e3
      have d1 := HS.out _ (li_mem (l := s) (i := k) (by omega))
      have hj := join_u64 (r := R) (d := li s k) (by omega) (by omega) d1.1 d1.2
      have HSET := Lib.hid hset
      clear hset ea
      go_wp2
      go_roundw
      case rel => exact ⟨k, _, _, by omega, by go_num, rfl, by omega, by omega, by rw [List.length_set]; exact htl, Lib.hid ⟨HSET.out _, HT.out.2.1.set _ (by omega) (by omega), take_keep HT.out.2.2.1, div_step (by omega) (by omega) HT.out.2.2.2⟩, hb.setCell (p := ⟨g, k, none⟩) hg1 _, Lib.hid (HN.out.set rfl _ _)⟩
      case measure => simp [intOf]
end Go.Proofs.Ytjnabmchejdhpaa
