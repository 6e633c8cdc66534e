/- Contracts of clone and Ident of layer 5 (perm), and of Same, Ident, Place and is of its specification, over the translation. -/
import Derived.Test.YthbcjjodinnnfaaBase
namespace Go.Proofs.Ythbcjjodinnnfaa
open Go.RowKit

set_option maxHeartbeats 1000000 in
theorem perm_clone (A : Option Addr) (ca : Nat) (l : List Int) (w : World) (h : RI w w.heap.size A l) (hl : l.length ≤ 1000000000000) :
    Calls Try.prog 25 #[.slice A l.length ca] w fun r w' => ∃ g, r = .returned (.slice (some ⟨g, 0, none⟩) l.length l.length) ∧ Blk w' g 3 (intRow l) ∧ w.heap.size ≤ g ∧ Below w.heap.size w w' := by
  have H := Lib.hid h
  have hmk := run_mk l.length hl
  clear h
  go_enter Try.func25, Try.ntmps25
  go_wp2_with ((with_reducible refine wpList_copy_splice rfl _ _ 22 22 rfl 3 Try.underlying22 (by kernel_rfl) (some ⟨w.heap.size, 0, none⟩) A l.length l.length l.length ca rfl rfl w.heap.size 0 ((List.replicate l.length (0 : Int)).map (Value.int .i64)) 3 ?hg (l.map (Value.int .i64)) (by simp) ?hpos (by simp) ?h1 w.heap.size w ((Below.refl _ _).alloc (Nat.le_refl _) _) (Nat.le_refl _) ?_))
  case hg => exact Blk.new _ _ _
  case hpos =>
    intro hp
    obtain ⟨b, off, rfl, hb, hc⟩ := H.out (by simpa using hp)
    refine ⟨_, rfl, fun j v hj => ?_⟩
    rw [World.cell?_alloc_lt _ _ _ (by unfold Addr.add; split <;> exact hb)]
    exact copy_at hc j _ (by rw [List.getElem?_map, hj]; rfl)
  case h1 => intro v hv; rw [List.mem_map] at hv; obtain ⟨_, _, rfl⟩ := hv; rfl
  intro w1 hsp hb1
  have hB1 : Blk w1 w.heap.size 3 (intRow l) := by
    have := hsp.out
    rw [splice_all _ _ (by simp)] at this
    exact this
  have HB1 := Lib.hid hB1
  clear hsp hB1 hmk
  go_wp2
  go_ret
  exact ⟨_, rfl, HB1.out, Nat.le_refl _, hb1⟩

set_option maxHeartbeats 1000000 in
theorem ref_Same (A C : Option Addr) (ca cb : Nat) (a b : List Int) (w : World) (ha : RI w w.heap.size A a) (hb : RI w w.heap.size C b) (la : a.length ≤ 1000000000000) (_lb' : b.length ≤ 1000000000000) :
    Calls Try.prog 10 #[.slice A a.length ca, .slice C b.length cb] w fun r w' => r = .returned (.bool (decide (a = b))) ∧ Below w.heap.size w w' := by
  have HA := Lib.hid ha
  have HB := Lib.hid hb
  clear ha hb
  by_cases h : a.length = b.length
  · have hne : ((a.length : Int) != (b.length : Int)) = false := by simp [h]
    have hle : b.length ≤ a.length := by omega
    have hle2 : a.length ≤ b.length := by omega
    clear h
    go_enter Try.func10, Try.ntmps10
    go_wp2
    go_loopw [5] (fun i wr => ∃ k n : Nat, k ≤ a.length ∧ (∀ j, j < k → li a j = li b j) ∧ i = .int .i64 k ∧ wr = w.drewN n) (fun i _ => a.length - (intOf i).toNat)
    case atStart => exact ⟨0, 0, Nat.zero_le _, fun j hj => absurd hj (by omega), rfl, rfl⟩
    case round =>
      obtain ⟨k, n, hka, hv, rfl, rfl⟩ := hrel
      have HV := Lib.hid hv
      clear hv
      by_cases h1 : k < a.length
      · have h2 : k < b.length := by omega
        obtain ⟨g1, o1, rfl, hg1, hc1⟩ := HA.out (by omega)
        obtain ⟨g2, o2, rfl, hg2, hc2⟩ := HB.out (by omega)
        have e1 := hc1 k h1
        have e2 := hc2 k h2
        have h1' : (k : Int) < (a.length : Int) := by omega
        have h2' : (k : Int) < (b.length : Int) := by omega
        have h0' : (0 : Int) ≤ (k : Int) := by omega
        clear hc1 hc2
        by_cases hd : li a k = li b k
        · have HN : Hid (∀ j, j < k + 1 → li a j = li b j) := fun j hj => by
            by_cases e : j = k
            · rw [e]; exact hd
            · exact HV.out j (by omega)
          have hd' : (li a k == li b k) = true := by simp [hd]
          have hd2 : (li a k != li b k) = false := by simp [hd]
          clear hd
          go_wp2
          go_quiet (fail)
          go_wp2
          go_roundw
          case rel => exact ⟨k + 1, _, by omega, HN.out, by go_num, rfl⟩
          case measure => simp [intOf]; omega
        · have HN : Hid (decide (a = b) = false) := by
            show _ = _
            simp; intro e; exact hd (by rw [e])
          have hd' : (li a k == li b k) = false := by simp [hd]
          have hd2 : (li a k != li b k) = true := by simp [hd]
          clear hd
          go_wp2
          go_quiet (fail)
          go_wp2
          go_ret
          exact ⟨by rw [HN.out]; rfl, by simp only [World.drewN_drewN]; exact below_drewN (Below.refl _ _) _⟩
      · have HN : Hid (decide (a = b) = true) := by
          show _ = _
          simp; exact li_ext (by omega) (fun i hi => HV.out i (by omega))
        go_wp2
        go_ret
        exact ⟨by rw [HN.out]; rfl, below_drewN (Below.refl _ _) _⟩
  · have hne : ((a.length : Int) != (b.length : Int)) = true := by simp; omega
    have HN : Hid (decide (a = b) = false) := by
      show _ = _
      simp; intro e; exact h (by rw [e])
    clear h
    go_enter Try.func10, Try.ntmps10
    go_wp2
    go_ret
    exact ⟨by rw [HN.out]; rfl, Below.refl _ _⟩

theorem ref_is (A : Option Addr) (ca : Nat) (l : List Int) (i : Int) (w : World) (_hl : l.length ≤ 1000000000000) :
    Calls Try.prog 26 #[.slice A l.length ca, .int .i64 i] w fun r w' => r = .returned (.bool (decide (0 ≤ i ∧ i < l.length))) ∧ w = w' := by
  by_cases h0 : 0 ≤ i
  · by_cases h1 : i < l.length
    · have hF : decide (0 ≤ i ∧ i < l.length) = true := by simp [h0, h1]
      rw [hF]
      clear hF
      go_enter Try.func26, Try.ntmps26
      go_wp2
      go_ret
      exact ⟨rfl, rfl⟩
    · have hF : decide (0 ≤ i ∧ i < l.length) = false := by simp; omega
      rw [hF]
      clear hF
      go_enter Try.func26, Try.ntmps26
      go_wp2
      go_ret
      exact ⟨rfl, rfl⟩
  · have hF : decide (0 ≤ i ∧ i < l.length) = false := by simp; omega
    rw [hF]
    clear hF
    go_enter Try.func26, Try.ntmps26
    go_wp2
    go_ret
    exact ⟨rfl, rfl⟩

/-- The first place of x in l, or -1. -/
def placeL (l : List Int) (x : Int) : Int := match (List.range l.length).find? (fun i => li l i == x) with
  | some i => (i : Int)
  | none => -1
theorem place_at {l : List Int} {x : Int} {k : Nat} (hk : k < l.length) (h : ∀ j, j < k → li l j ≠ x) (e : li l k = x) : placeL l x = k := by
  have : (List.range l.length).find? (fun i => li l i == x) = some k := by
    rw [List.find?_range_eq_some]
    exact ⟨by simp [e], by simpa using hk, fun j hj => by simpa using h j hj⟩
  unfold placeL; rw [this]
theorem place_no {l : List Int} {x : Int} (h : ∀ j, j < l.length → li l j ≠ x) : placeL l x = -1 := by
  have : (List.range l.length).find? (fun i => li l i == x) = none := by
    rw [List.find?_range_eq_none]
    intro j hj; simpa using h j hj
  unfold placeL; rw [this]
set_option maxHeartbeats 1000000 in
theorem ref_Place (A : Option Addr) (ca : Nat) (l : List Int) (x : Int) (w : World) (h : RI w w.heap.size A l) (hl : l.length ≤ 1000000000000) :
    Calls Try.prog 24 #[.slice A l.length ca, .int .i64 x] w fun r w' => r = .returned (.int .i64 (placeL l x)) ∧ w = w' := by
  have H := Lib.hid h
  clear h
  go_enter Try.func24, Try.ntmps24
  go_wp2
  go_loop [4, 5] (fun r i => ∃ k : Nat, k ≤ l.length ∧ (∀ j, j < k → li l j ≠ x) ∧ r = .int .i64 0 ∧ i = .int .i64 k) (fun _ i => l.length - (intOf i).toNat)
  case atStart => exact ⟨0, Nat.zero_le _, fun j hj => absurd hj (by omega), rfl, rfl⟩
  case round =>
    obtain ⟨k, hk, hv, rfl, rfl⟩ := hrel
    have HV := Lib.hid hv
    clear hv
    by_cases hlt : k < l.length
    · obtain ⟨g, o, rfl, hg, hc⟩ := H.out (by omega)
      have e1 := hc k hlt
      have h1' : (k : Int) < (l.length : Int) := by omega
      clear hc
      by_cases hd : li l k = x
      · have HP := Lib.hid (place_at hlt HV.out hd)
        have hd' : (li l k == x) = true := by simp [hd]
        clear hd
        go_wp2
        go_ret
        exact ⟨by rw [HP.out]; rfl, rfl⟩
      · have HN : Hid (∀ j, j < k + 1 → li l j ≠ x) := fun j hj => by
          by_cases e : j = k
          · rw [e]; exact hd
          · exact HV.out j (by omega)
        have hd' : (li l k == x) = false := by simp [hd]
        clear hd
        go_wp2
        go_round
        case rel => exact ⟨k + 1, by omega, HN.out, rfl, by go_num⟩
        case measure => simp [intOf]; omega
    · obtain rfl : k = l.length := by omega
      have HP := Lib.hid (place_no HV.out)
      go_wp2
      go_ret
      exact ⟨by rw [HP.out]; rfl, rfl⟩

def clampN (m : Int) : Nat := if m < 0 then 0 else if 64 < m then 64 else m.toNat
theorem clampN_le (m : Int) : clampN m ≤ 64 := by unfold clampN; split; omega; split <;> omega
def idL (n : Nat) : List Int := (List.range n).map fun (i : Nat) => (i : Int)
theorem idL_len (n : Nat) : (idL n).length = n := by unfold idL; simp
theorem idL_succ (n : Nat) : idL (n + 1) = idL n ++ [(n : Int)] := by unfold idL; rw [List.range_succ]; simp
def ip (K k : Nat) : List Int := idL k ++ List.replicate (K - k) 0
theorem ip_zero (K : Nat) : ip K 0 = List.replicate K 0 := by unfold ip idL; simp
theorem ip_all (K : Nat) : ip K K = idL K := by unfold ip; simp
theorem ip_len {K k : Nat} (h : k ≤ K) : (ip K k).length = K := by unfold ip; rw [List.length_append, idL_len, List.length_replicate]; omega
theorem ip_set {K k : Nat} (h : k < K) : (ip K k).set k (k : Int) = ip K (k + 1) := by
  unfold ip
  rw [idL_succ, show K - k = (K - (k + 1)) + 1 by omega, List.replicate_succ, List.set_append]
  simp [idL_len]
end Go.Proofs.Ythbcjjodinnnfaa
