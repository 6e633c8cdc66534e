/- Contracts of Union of layer 42 (sched), of vset and of its specification, over the translation. -/
import Derived.Test.YtjohdkcgodaeiaaV2
import Derived.Lib.AppendZeros
namespace Go.Proofs.Ytjohdkcgodaeiaa
open Go.RowKit

set_option maxHeartbeats 1000000 in
theorem grow_zero (w : World) : Calls Try.prog 49 #[.slice none 0 0, .int .i64 0] w fun e w' => e = .returned (.slice none 0 0) ∧ w = w' := by
  go_enter Try.func49, Try.ntmps49
  go_wp2
  go_ret
  exact ⟨rfl, rfl⟩
set_option maxHeartbeats 1000000 in
theorem grow_some (n : Nat) (w : World) (h1 : 1 ≤ n) (hn : n ≤ 1000000000) : Calls Try.prog 49 #[.slice none 0 0, .int .i64 n] w fun e w' => ∃ v, e = .returned v ∧ Own w' w.heap.size v [] ∧ Below w.heap.size w w' := by
  obtain ⟨i0, hi, hz0, hz1, hz2⟩ := info_parts info3
  have happ := Lib.run_append_nil_zeros (P := Try.prog) w 23 3 23 3 i0 (.int .i64 0) .i64 .i64 Try.underlying23 Try.underlying3 hi hz0 n (by omega) (by omega) (by omega) (by rw [hz2]; omega)
  generalize hcap : grownCap w n 0 3 = cap2 at happ
  have hcapge : n ≤ cap2 := by rw [← hcap]; exact grownCap_ge w _ 0 3
  have hcaple : cap2 ≤ maxLen := by rw [← hcap]; exact grownCap_le_maxLen w _ 0 3 (by unfold maxLen; omega)
  generalize hZ : (Builtin.zeroCells (Value.int .i64 0).cells n ++ Builtin.zeroCells (Value.int .i64 0).cells (cap2 - n)) = Z at happ
  have hZs : Z.size = cap2 := by rw [← hZ]; simp [size_zeroCells, Value.cells]; omega
  clear hcap hZ
  have hO : Own (w.drew.alloc (.cells Z 3)) w.heap.size (.slice (some ⟨w.heap.size, 0, none⟩) 0 cap2) [] := ⟨rfl, .inr ⟨w.heap.size, cap2, Z, rfl, Nat.le_refl _, heap_alloc_new w _, Nat.zero_le _, hcaple, by rw [hZs, Nat.mul_one], rfl⟩⟩
  have hb : Below w.heap.size w (w.drew.alloc (.cells Z 3)) := ((Below.refl _ w).drew).alloc (Nat.le_refl _) _
  have HO := Lib.hid hO
  have HB := Lib.hid hb
  have hn' : (0 : Int) < (n : Int) := by omega
  have hc1 : (0 : Int) ≤ (cap2 : Int) := by omega
  clear hO hb
  go_enter Try.func49, Try.ntmps49
  go_wp2_with (at_builtin; refine Lib.wpList_append_run _ rfl _ _ _ _ rfl _ _ rfl rfl _ _ happ ?_)
  go_ret
  exact ⟨_, rfl, HO.out, HB.out⟩

/-- One of the slices: its address, its capacity, what it reads as. -/
abbrev Rw := Option Addr × Nat × List Int
def rw_ (rows : List Rw) (k : Nat) : Rw := rows.getD k (none, 0, [])
def rcell (r : Rw) : Value := .slice r.1 r.2.2.length r.2.1
/-- The slice of slices whose address is A reads as rows, below block B. -/
structure RR (w : World) (B : Nat) (A : Option Addr) (rows : List Rw) : Prop where
  at_ : 0 < rows.length → ∃ b off, A = some ⟨b, off, none⟩ ∧ b < B ∧ ∀ i, i < rows.length → w.cell? ⟨b, off + i, none⟩ = some (rcell (rw_ rows i))
  row : ∀ i, i < rows.length → RI w B (rw_ rows i).1 (rw_ rows i).2.2 ∧ ((rw_ rows i).1 = none → (rw_ rows i).2.1 = 0)
theorem RR.below {w w' : World} {B : Nat} {A : Option Addr} {rows : List Rw} (h : RR w B A rows) (hb : Below B w w') : RR w' B A rows where
  at_ := fun hl => by
    obtain ⟨b, off, e, hB, hc⟩ := h.at_ hl
    exact ⟨b, off, e, hB, fun i hi => (hb.cell (p := ⟨b, off + i, none⟩) hB).trans (hc i hi)⟩
  row := fun i hi => ⟨(h.row i hi).1.below hb, (h.row i hi).2⟩
theorem RR.more {w : World} {B B' : Nat} {A : Option Addr} {rows : List Rw} (h : RR w B A rows) (hB : B ≤ B') : RR w B' A rows where
  at_ := fun hl => by
    obtain ⟨b, off, e, hb, hc⟩ := h.at_ hl
    exact ⟨b, off, e, by omega, hc⟩
  row := fun i hi => ⟨(h.row i hi).1.more hB, (h.row i hi).2⟩
theorem RR.step {w w' : World} {A : Option Addr} {rows : List Rw} (h : RR w w.heap.size A rows) (hb : Below w.heap.size w w') : RR w' w'.heap.size A rows := (h.below hb).more hb.size
theorem RR.nil {w : World} {B : Nat} {A : Option Addr} : RR w B A [] := ⟨fun h => absurd h (by simp), fun i h => absurd h (by simp)⟩
def allL (rows : List Rw) (k : Nat) : List Int := (rows.take k).flatMap (·.2.2)
theorem allL_succ {rows : List Rw} {k : Nat} (h : k < rows.length) : allL rows (k + 1) = allL rows k ++ (rw_ rows k).2.2 := by
  unfold allL rw_
  rw [List.take_succ_eq_append_getElem h, List.flatMap_append]
  simp [List.getD, List.getElem?_eq_getElem h]
theorem allL_le (rows : List Rw) {j k : Nat} (h : j ≤ k) (hk : k ≤ rows.length) : (allL rows j).length ≤ (allL rows k).length := by
  induction k with
  | zero => have : j = 0 := by omega
            subst this; exact Nat.le_refl _
  | succ k ih =>
    by_cases e : j = k + 1
    · rw [e]; exact Nat.le_refl _
    · have := ih (by omega) (by omega)
      rw [allL_succ (by omega), List.length_append]; omega

set_option maxRecDepth 100000 in
set_option maxHeartbeats 4000000 in
theorem concat_any (A : Option Addr) (ca : Nat) (rows : List Rw) (w : World) (h : RR w w.heap.size A rows) (hr : rows.length ≤ 1000000) (hl : (allL rows rows.length).length ≤ 1000000) :
    Calls Try.prog 39 #[.slice A rows.length ca] w fun e w' => ∃ v, e = .returned v ∧ Own w' w.heap.size v (allL rows rows.length) ∧ Below w.heap.size w w' := by
  obtain ⟨i0, hi0, hz0, hz1, hz2⟩ := info_parts info3
  have H := Lib.hid h
  clear h
  go_enter Try.func39, Try.ntmps39
  go_wp2
  go_loop [3, 11] (fun s i => ∃ k : Nat, k ≤ rows.length ∧ i = .int .i64 k ∧ s = .int .i64 ((allL rows k).length : Nat)) (fun _ i => rows.length - (intOf i).toNat)
  case atStart => exact ⟨0, Nat.zero_le _, rfl, rfl⟩
  case round =>
    obtain ⟨k, hk, rfl, rfl⟩ := hrel
    by_cases hlt : k < rows.length
    · obtain ⟨b, off, rfl, hb, hc⟩ := H.out.at_ (by omega)
      have e1 := hc k hlt
      unfold rcell at e1
      have h1' : (k : Int) < (rows.length : Int) := by omega
      have hs1 := allL_succ hlt
      have hs2 := allL_le rows (j := k + 1) (k := rows.length) (by omega) (Nat.le_refl _)
      have hs3 := congrArg List.length hs1
      rw [List.length_append] at hs3
      obtain ⟨m, hm⟩ : ∃ m, (rw_ rows k).2.2.length = m := ⟨_, rfl⟩
      obtain ⟨t, ht⟩ : ∃ t, (allL rows k).length = t := ⟨_, rfl⟩
      obtain ⟨u, hu⟩ : ∃ u, (allL rows (k + 1)).length = u := ⟨_, rfl⟩
      rw [hm] at e1 hs3
      rw [ht] at hs3 ⊢
      rw [hu] at hs2 hs3
      have HU := Lib.hid hu
      have hmb : m ≤ 1000000 := by omega
      have htb : t ≤ 1000000 := by omega
      have HS := Lib.hid hs3
      clear hc hs1 hs2 hs3 hm ht hu
      go_wp2
      go_round
      case rel => exact ⟨k + 1, by omega, by go_num, by rw [HU.out, HS.out]; go_num⟩
      case measure => simp [intOf]; omega
    · obtain rfl : k = rows.length := by omega
      obtain ⟨t, ht⟩ : ∃ t, (allL rows rows.length).length = t := ⟨_, rfl⟩
      rw [ht] at hl ⊢
      have HG : Hid (Calls Try.prog 49 #[.slice none 0 0, .int .i64 (t : Int)] w fun e w' => ∃ v, e = .returned v ∧ Own w' w.heap.size v [] ∧ Below w.heap.size w w') := by
        by_cases h0 : t = 0
        · subst h0
          exact (grow_zero w).mono fun e w' ⟨he, hw⟩ => ⟨_, he, World.ownsRow_nil _ _ _ _, by rw [← hw]; exact Below.refl _ _⟩
        · exact grow_some t w (by omega) (by omega)
      have HT := Lib.hid ht
      clear ht
      go_wp2_with fail
      refine HG.out.mono ?_; rintro e w1 ⟨v, rfl, hO, hb1⟩
      have HO := Lib.hid hO
      clear hO HG
      go_wp2
      go_loopw [6, 27] (fun v i wr => ∃ k : Nat, k ≤ rows.length ∧ i = .int .i64 k ∧ Own wr w.heap.size v (allL rows k) ∧ Below w.heap.size w wr) (fun _ i _ => rows.length - (intOf i).toNat)
      case atStart => exact ⟨0, Nat.zero_le _, rfl, HO.out, hb1⟩
      case round =>
        obtain ⟨k, hk, rfl, hO, hbr⟩ := hrel
        have HO2 := Lib.hid hO
        clear hO
        by_cases hlt : k < rows.length
        · obtain ⟨b, off, rfl, hb, hc⟩ := H.out.at_ (by omega)
          have e1 := (hbr.cell (p := ⟨b, off + k, none⟩) hb).trans (hc k hlt)
          obtain ⟨hR, hN⟩ := H.out.row k hlt
          unfold rcell at e1
          have h1' : (k : Int) < (rows.length : Int) := by omega
          have hs1 := allL_succ hlt
          have hs2 := allL_le rows (j := k + 1) (k := rows.length) (by omega) (Nat.le_refl _)
          rw [HT.out, hs1, List.length_append] at hs2
          obtain ⟨⟨Ak, ck, lk⟩, hrk⟩ : ∃ r, rw_ rows k = r := ⟨_, rfl⟩
          rw [hrk] at e1 hR hN hs1 hs2
          simp only at e1 hR hN hs1 hs2
          obtain ⟨T, hT⟩ : ∃ T, allL rows k = T := ⟨_, rfl⟩
          rw [hT] at HO2 hs1 hs2
          have HS := Lib.hid hs1
          clear hc hs1 hrk hT
          have hsz := hbr.size
          cases Ak with
          | none =>
            obtain rfl : lk = [] := hR.none_nil
            obtain rfl : ck = 0 := hN rfl
            have HS2 : Hid (allL rows (k + 1) = T) := by show _ = _; rw [HS.out]; simp
            clear hR hN HS
            go_wp2_with (at_builtin; refine wpList_append_own_none rfl _ _ 23 rfl w.heap.size 3 i0 1 Try.underlying23 hi0 _ _ _ rfl HO2.out rfl ?_)
            go_roundw
            case rel => exact ⟨k + 1, by omega, by go_num, by rw [HS2.out]; exact HO2.out, hbr⟩
            case measure => simp [intOf]; omega
          | some ad =>
            have hsrc : Hid (∀ j u, (lk.map (Value.int .i64))[j]? = some u → wr.cell? (ad.add j) = some u) := fun j u hj => by
              obtain ⟨h1, h2⟩ := hR.src j u hj
              exact (hbr.cell h2).trans h1
            clear hR hN
            have HB := Lib.hid hbr
            go_wp2_with (at_builtin; refine wpList_append_own _ rfl _ _ 23 rfl w.heap.size 3 i0 _ 1 8 Try.underlying23 hi0 hz0 hz1 hz2 rfl (by decide) _ _ _ rfl HO2.out ad lk.length ck (lk.map (Value.int .i64)) rfl (by simp) hsrc.out (by intro v hv; rw [List.mem_map] at hv; obtain ⟨_, _, rfl⟩ := hv; rfl) (by unfold maxLen; omega) (by omega) hsz ?_; intro v2 w4 hown hg4 _; have hbr4 := HB.out.grown hg4 hsz (fun k e => HO2.out.block k e); have HO4 : Hid (Own w4 w.heap.size v2 (T ++ lk)) := ⟨by simp, by simpa using hown.2⟩; clear hown hg4 HO2)
            go_roundw
            case rel => exact ⟨k + 1, by omega, by go_num, by rw [HS.out]; exact HO4.out, hbr4⟩
            case measure => simp [intOf]; omega
        · obtain rfl : k = rows.length := by omega
          go_wp2
          go_ret
          exact ⟨_, rfl, HO2.out, hbr⟩
end Go.Proofs.Ytjohdkcgodaeiaa
