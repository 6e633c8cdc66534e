/- The specification's search; layer 25 (ddaudit). -/
import Derived.Test.YtmpcfplpdbdmmaaFn7
namespace Go.Proofs.Ytmpcfplpdbdmmaa
open Go.RowKit Go.Maps

theorem idxN_none_snoc {l : List Int} {k : Nat} (h : k < l.length) {v : Int} (h1 : idxN (l.take k) v = none) (h2 : ia l k ≠ v) : idxN (l.take (k + 1)) v = none := by
  rw [ia_take h, idxN_snoc, h1]; simp [h2]
theorem idxN_app {a b : List Int} {v : Int} {i : Nat} (h : idxN a v = some i) : idxN (a ++ b) v = some i := by
  induction a generalizing i with
  | nil => cases h
  | cons x r ih =>
    unfold idxN at h
    simp only [List.cons_append, idxN]
    split
    · rename_i e; rw [if_pos e] at h; exact h
    · rename_i e
      rw [if_neg e] at h
      cases e2 : idxN r v with
      | none => rw [e2] at h; cases h
      | some j => rw [e2] at h; rw [ih e2]; exact h
theorem idxN_hit {l : List Int} {k : Nat} (h : k < l.length) {v : Int} (h1 : idxN (l.take k) v = none) (h2 : ia l k = v) : idxN l v = some k := by
  have e : idxN (l.take (k + 1)) v = some k := by rw [ia_take h, idxN_snoc, h1]; simp [h2]; omega
  have := idxN_app (b := l.drop (k + 1)) e
  rwa [List.take_append_drop] at this
set_option maxHeartbeats 4000000 in
theorem r_place (order : List Int) (v : Int) (A : Option Addr) (ca : Nat) (w : World) (hA : RowI w.heap.size w A order) (hl1 : order.length ≤ 9223372036854775807) :
    Calls Try.prog 18 #[.slice A order.length ca, .int .i64 v] w fun e w' => e = .returned (.int .i64 (posZ (idxF order) v)) ∧ w = w' := by
  have HA := Lib.hid hA
  have HL := Lib.hid hl1
  clear hA hl1
  go_enter Try.func18, Try.ntmps18
  go_wp2
  go_loopw [5] (fun i wr => ∃ k : Nat, k ≤ order.length ∧ i = .int .i64 (k : Int) ∧ Hid (idxN (order.take k) v = none) ∧ Hid (w = wr)) (fun i _ => order.length - (intOf i).toNat)
  case atStart => exact ⟨0, Nat.zero_le _, rfl, Lib.hid rfl, Lib.hid rfl⟩
  case round =>
    obtain ⟨k, hk, rfl, HN, HW⟩ := hrel
    have hbd := HL.out
    by_cases hlt : k < order.length
    · have l1 : (k : Int) < (order.length : Int) := by omega
      obtain ⟨b, f0, rfl, hbl, hc⟩ := HA.out (by omega)
      have d0 := hc k hlt
      rw [HW.out] at d0
      by_cases he : ia order k = v
      · have X : Hid (posZ (idxF order) v = (k : Int)) := Lib.hid (by unfold posZ idxF; rw [idxN_hit hlt HN.out he]; rfl)
        clear hc
        rw [he] at d0
        go_wp2
        go_ret
        exact ⟨ret_i X.out.symm, HW.out⟩
      · have X : Hid (idxN (order.take (k + 1)) v = none) := Lib.hid (idxN_none_snoc hlt HN.out he)
        have he2 : (ia order k == v) = false := by simp [he]
        clear hc
        go_wp2
        go_roundw
        case rel => exact ⟨k + 1, by omega, by go_num, X, HW⟩
        case measure => simp [intOf]; try omega
    · have l1 : ¬ (k : Int) < (order.length : Int) := by omega
      obtain rfl : k = order.length := by omega
      have X : Hid (posZ (idxF order) v = -1) := Lib.hid (by unfold posZ idxF; have := HN.out; rw [List.take_length] at this; rw [this]; rfl)
      go_wp2
      go_ret
      exact ⟨ret_i X.out.symm, HW.out⟩
def lostR (l : List Nd) (e : Int) : Bool := if e < 0 then true else if e / 2 = 0 then false else !(l.any (fun y => leadF e y.id))
def wrongR (order : List Int) (l : List Nd) (at_ e : Int) : Bool := l.any (fun y => leadF e y.id && decide (posZ (idxF order) y.v ≤ at_))
theorem any_hit {α} {p : α → Bool} {l : List α} {x : α} (hx : x ∈ l) (h : p x = true) : l.any p = true := List.any_eq_true.2 ⟨x, hx, h⟩
theorem na_mem {l : List Nd} {k : Nat} (h : k < l.length) : na l k ∈ l := by
  unfold na; simp [List.getD, List.getElem?_eq_getElem h]
set_option maxHeartbeats 4000000 in
theorem r_lost (l : List Nd) (e : Int) (he : In64 e) (A : Option Addr) (ca : Nat) (w : World) (hA : RowN w.heap.size w A l) (hl1 : l.length ≤ 1000) :
    Calls Try.prog 17 #[.int .i64 e, .slice A l.length ca] w fun r w' => r = .returned (.bool (lostR l e)) ∧ w = w' := by
  have HA := Lib.hid hA
  have HL := Lib.hid hl1
  have HE := Lib.hid he
  have HLd : Hid (∀ id wx, Calls Try.prog 26 #[.int .i64 e, .int .i64 id] wx fun r w' => r = .returned (.bool (leadF e id)) ∧ wx = w') := Lib.hid (fun id wx => r_leads e id wx he)
  clear hA hl1
  unfold In64 at he
  by_cases h0 : e < 0
  · have X : Hid (lostR l e = true) := Lib.hid (by unfold lostR; rw [if_pos h0])
    go_enter Try.func17, Try.ntmps17
    go_wp2
    go_ret
    exact ⟨ret_b X.out.symm, rfl⟩
  by_cases h1 : e / 2 = 0
  · have X : Hid (lostR l e = false) := Lib.hid (by unfold lostR; rw [if_neg h0, if_pos h1])
    go_enter Try.func17, Try.ntmps17
    go_wp2
    go_ret
    exact ⟨ret_b X.out.symm, rfl⟩
  have HZ : Hid (∀ b, l.any (fun y => leadF e y.id) = b → lostR l e = !b) := Lib.hid (fun b hb => by unfold lostR; rw [if_neg h0, if_neg h1, hb])
  go_enter Try.func17, Try.ntmps17
  go_wp2
  go_loopw [5] (fun i wr => ∃ k : Nat, k ≤ l.length ∧ i = .int .i64 (k : Int) ∧ Hid ((l.take k).any (fun y => leadF e y.id) = false) ∧ Hid (w = wr)) (fun i _ => l.length - (intOf i).toNat)
  case atStart => exact ⟨0, Nat.zero_le _, rfl, Lib.hid rfl, Lib.hid rfl⟩
  case round =>
    obtain ⟨k, hk, rfl, HN, HW⟩ := hrel
    have hbd := HL.out
    by_cases hlt : k < l.length
    · have l1 : (k : Int) < (l.length : Int) := by omega
      obtain ⟨b, f0, rfl, hbl, hc⟩ := HA.out (by omega)
      obtain ⟨d0, -⟩ := hc k hlt
      rw [HW.out] at d0
      have HC := Lib.hid (HLd.out (na l k).id wr)
      have HTK := Lib.hid (na_take hlt)
      have HM := Lib.hid (na_mem hlt)
      clear hc
      generalize na l k = x at *
      obtain ⟨p, hp⟩ : ∃ p, leadF e x.id = p := ⟨_, rfl⟩
      have HP := Lib.hid hp
      rw [hp] at HC
      clear hp
      cases p
      · have X : Hid ((l.take (k + 1)).any (fun y => leadF e y.id) = false) := Lib.hid (by rw [HTK.out, List.any_append, HN.out]; simp [HP.out])
        go_wp2_with (go_at_call 26; refine HC.out.mono ?_; rintro r w' ⟨rfl, rfl⟩)
        go_roundw
        case rel => exact ⟨k + 1, by omega, by go_num, X, HW⟩
        case measure => simp [intOf]; try omega
      · have X : Hid (lostR l e = false) := Lib.hid (HZ.out true (any_hit HM.out HP.out))
        go_wp2_with (go_at_call 26; refine HC.out.mono ?_; rintro r w' ⟨rfl, rfl⟩)
        go_ret
        exact ⟨ret_b X.out.symm, HW.out⟩
    · have l1 : ¬ (k : Int) < (l.length : Int) := by omega
      obtain rfl : k = l.length := by omega
      have X : Hid (lostR l e = true) := Lib.hid (HZ.out false (by have := HN.out; rwa [List.take_length] at this))
      go_wp2
      go_ret
      exact ⟨ret_b X.out.symm, HW.out⟩
set_option maxHeartbeats 4000000 in
theorem r_wrong (order : List Int) (l : List Nd) (at_ e : Int) (he : In64 e) (A : Option Addr) (ca : Nat) (C : Option Addr) (cc : Nat) (w : World) (hA : RowI w.heap.size w A order) (hC : RowN w.heap.size w C l) (hl1 : order.length ≤ 9223372036854775807) (hl2 : l.length ≤ 1000) :
    Calls Try.prog 19 #[.int .i64 at_, .int .i64 e, .slice A order.length ca, .slice C l.length cc] w fun r w' => r = .returned (.bool (wrongR order l at_ e)) ∧ w = w' := by
  have HC := Lib.hid hC
  have HL := Lib.hid hl2
  have HLd : Hid (∀ id wx, Calls Try.prog 26 #[.int .i64 e, .int .i64 id] wx fun r w' => r = .returned (.bool (leadF e id)) ∧ wx = w') := Lib.hid (fun id wx => r_leads e id wx he)
  have HPl : Hid (∀ v wx, w = wx → Calls Try.prog 18 #[.slice A order.length ca, .int .i64 v] wx fun e w' => e = .returned (.int .i64 (posZ (idxF order) v)) ∧ wx = w') := Lib.hid (fun v wx hh => by subst hh; exact r_place order v A ca w hA hl1)
  clear hA hC hl1 hl2 he
  go_enter Try.func19, Try.ntmps19
  go_wp2
  go_loopw [9] (fun i wr => ∃ k : Nat, k ≤ l.length ∧ i = .int .i64 (k : Int) ∧ Hid (wrongR order (l.take k) at_ e = false) ∧ Hid (w = wr)) (fun i _ => l.length - (intOf i).toNat)
  case atStart => exact ⟨0, Nat.zero_le _, rfl, Lib.hid rfl, Lib.hid rfl⟩
  case round =>
    obtain ⟨k, hk, rfl, HN, HW⟩ := hrel
    have hbd := HL.out
    by_cases hlt : k < l.length
    · have l1 : (k : Int) < (l.length : Int) := by omega
      obtain ⟨b, f0, rfl, hbl, hc⟩ := HC.out (by omega)
      obtain ⟨d0, d1, -⟩ := hc k hlt
      rw [HW.out] at d0 d1
      have HCa := Lib.hid (HLd.out (na l k).id wr)
      have HCb := Lib.hid (HPl.out (na l k).v wr HW.out)
      have HTK := Lib.hid (na_take hlt)
      have HM := Lib.hid (na_mem hlt)
      clear hc
      generalize na l k = x at *
      obtain ⟨p, hp⟩ : ∃ p, leadF e x.id = p := ⟨_, rfl⟩
      obtain ⟨z, hz⟩ : ∃ z, posZ (idxF order) x.v = z := ⟨_, rfl⟩
      have HP := Lib.hid hp
      have HZ := Lib.hid hz
      rw [hp] at HCa
      rw [hz] at HCb
      clear hp hz
      have HF : Hid ((p && decide (z ≤ at_)) = false → wrongR order (l.take (k + 1)) at_ e = false) := Lib.hid (fun hh => by
        have := HN.out
        unfold wrongR at *
        rw [HTK.out, List.any_append, this]
        simp only [List.any_cons, List.any_nil, Bool.or_false, Bool.false_or]
        rw [HP.out, HZ.out]; exact hh)
      cases p
      · have X := Lib.hid (HF.out rfl)
        go_wp2_with (go_at_call 26; refine HCa.out.mono ?_; rintro r w' ⟨rfl, rfl⟩)
        go_roundw
        case rel => exact ⟨k + 1, by omega, by go_num, X, HW⟩
        case measure => simp [intOf]; try omega
      · by_cases hza : z ≤ at_
        · have X : Hid (wrongR order l at_ e = true) := Lib.hid (any_hit HM.out (by rw [HP.out, HZ.out]; simp [hza]))
          go_wp2_with (first | (go_at_call 26; refine HCa.out.mono ?_; rintro r w' ⟨rfl, rfl⟩) | (go_at_call 18; refine HCb.out.mono ?_; rintro r w' ⟨rfl, rfl⟩))
          go_ret
          exact ⟨ret_b X.out.symm, HW.out⟩
        · have hza2 : decide (z ≤ at_) = false := by simp [hza]
          have X := Lib.hid (HF.out (by rw [hza2]; rfl))
          go_wp2_with (first | (go_at_call 26; refine HCa.out.mono ?_; rintro r w' ⟨rfl, rfl⟩) | (go_at_call 18; refine HCb.out.mono ?_; rintro r w' ⟨rfl, rfl⟩))
          go_roundw
          case rel => exact ⟨k + 1, by omega, by go_num, X, HW⟩
          case measure => simp [intOf]; try omega
    · have l1 : ¬ (k : Int) < (l.length : Int) := by omega
      obtain rfl : k = l.length := by omega
      have X : Hid (wrongR order l at_ e = false) := Lib.hid (by have := HN.out; rwa [List.take_length] at this)
      go_wp2
      go_ret
      exact ⟨ret_b X.out.symm, HW.out⟩
end Go.Proofs.Ytmpcfplpdbdmmaa
