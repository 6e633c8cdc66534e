/- The list of bytes that an argument is; the specification's Same without the places; the law's blank. Layer 29 (lexi). -/
import Derived.Test.YtnmofkngengoeaaDoorTmath
import Derived.Test.YtnmofkngengoeaaDoorFne
import Derived.Deep.Slices
import Derived.Deep.Fields
import Derived.ChangeSame
import Derived.Lib.SmallJoins
namespace Go.Proofs.YtnmofkngengoeaaDoor
open Go.ChangeShapes Go.WideShapes Go.Deep Go.RowKit Go.PlainAid

theorem cell_lt {w : World} {a : Addr} {v : Value} (h : w.cell? a = some v) : a.block < w.heap.size := by
  rcases Nat.lt_or_ge a.block w.heap.size with hlt | hge
  · exact hlt
  · have : w.heap[a.block]? = none := Array.getElem?_eq_none hge
    simp [World.cell?, this] at h
/-- The row of the bytes l, at A, below B. -/
def U8 (w : World) (B : Nat) (A : Option Addr) (l : List Int) : Prop :=
  0 < l.length → ∃ b off, A = some ⟨b, off, none⟩ ∧ b < B ∧ ∀ (i : Nat) (x : Int), l[i]? = some x → w.cell? ⟨b, off + i, none⟩ = some (.int .u8 x)
theorem U8.below {w w' : World} {B : Nat} {A : Option Addr} {l : List Int} (h : U8 w B A l) (hb : Below B w w') : U8 w' B A l := fun hp => by
  obtain ⟨b, off, hA, hlt, hc⟩ := h hp
  exact ⟨b, off, hA, hlt, fun i x hx => (hb.cell hlt).trans (hc i x hx)⟩
theorem u8s_open {H : Type} {enc : TypeId × Value → H} {w : World} {r : Reach} {b0 : Nat} {v : Value} {d : DataW H} {p : List MemPlace}
    (hv : Value.okWide Tryd.prog w r b0 45 v) (h : DataW.Trod enc Tryd.prog w 0 (fun _ => true) true 45 v d p) :
    ∃ (A : Option Addr) (c : Nat) (l : List Int), v = .slice A l.length c ∧ U8 w w.heap.size A l ∧ l.length ≤ maxLen ∧ (∀ x ∈ l, 0 ≤ x ∧ x ≤ 255) := by
  obtain ⟨A, len, cap, rfl⟩ := okWide_slice Tryd.underlying45 hv
  obtain ⟨fuel, hf⟩ := h
  rcases open_ints Tryd.underlying45 Tryd.underlying5 (by kernel_rfl) hf with ⟨hcs, _⟩ | ⟨x, l, c, zs, hcs, _, hl, hm, hz, _, hcell, hwz⟩
  · simp [Value.cells] at hcs
    obtain ⟨rfl, rfl, rfl⟩ := hcs
    exact ⟨none, 0, [], rfl, (fun h => absurd h (by decide)), Nat.zero_le _, fun _ h => by cases h⟩
  · simp [Value.cells] at hcs
    obtain ⟨rfl, rfl, rfl⟩ := hcs
    have hz' : zs.length = cap := by simpa using hz
    have hzl : (zs.take len).length = len := by rw [List.length_take]; omega
    refine ⟨some x, cap, zs.take len, by rw [hzl], fun hp => ?_, by rw [hzl]; omega, fun y hy => bounds_u8 (hwz y (List.mem_of_mem_take hy))⟩
    rw [hzl] at hp
    have hc0 := hcell 0 (by omega)
    have hlt := cell_lt hc0
    obtain ⟨b, off, spot⟩ := x
    have hspot : spot = none := by simpa [Addr.add] using World.cell?_spot hc0
    subst hspot
    have ha : ∀ j, (⟨b, off, none⟩ : Addr).add j = ⟨b, off + j, none⟩ := fun j => by unfold Addr.add; split <;> simp_all
    refine ⟨b, off, rfl, by simpa [ha] using hlt, fun i y hy => ?_⟩
    obtain ⟨hi, hyi⟩ := List.getElem?_eq_some_iff.1 hy
    rw [hzl] at hi
    have := hcell i (by omega)
    rw [ha] at this
    rw [this, ← hyi]
    simp [List.getD, show i < zs.length by omega]
set_option maxRecDepth 100000 in
set_option maxHeartbeats 4000000 in
theorem rf_SameF (A B : Option Addr) (ca cb : Nat) (l m : List Tk) (w : World) (hA : RT w A l) (hB : RT w B m) (hl : l.length ≤ 100000000) (hlm : m.length = l.length)
    (he : ∀ k, k < l.length → (tkAt m k).1 = (tkAt l k).1 ∧ (tkAt m k).2.1 = (tkAt l k).2.1 ∧ (tkAt m k).2.2.1 = (tkAt l k).2.2.1) :
    Calls Tryd.prog 11 #[.slice A l.length ca, .slice B l.length cb, .bool false] w fun e w' => e = .returned (.bool true) ∧ Below w.heap.size w w' := by
  have HA := Lib.hid hA
  have HB := Lib.hid hB
  have HE := Lib.hid he
  have HLM := Lib.hid hlm
  clear hA hB he hlm
  go_enter Tryd.func11, Tryd.ntmps11
  go_wp2
  go_loopw [7] (fun i wr => ∃ (k : Nat), k ≤ l.length ∧ i = .int .i64 (k : Int) ∧ Below w.heap.size w wr) (fun i _ => l.length - (intOf i).toNat)
  case atStart => exact ⟨0, Nat.zero_le _, rfl, Below.refl _ _⟩
  case round =>
    obtain ⟨k, hk, rfl, hb⟩ := hrel
    by_cases hlt : k < l.length
    · have h1 : (k : Int) < (l.length : Int) := by omega
      have h0 : (0 : Int) ≤ (k : Int) := by omega
      obtain ⟨b1, rfl, _, hc1⟩ := (HA.out.step hb) (by omega)
      obtain ⟨b2, rfl, _, hc2⟩ := (HB.out.step hb) (by rw [HLM.out]; omega)
      obtain ⟨c0, c1, c2, _⟩ := hc1 k hlt
      obtain ⟨d0, d1, d2, _⟩ := hc2 k (by rw [HLM.out]; omega)
      obtain ⟨q1, q2, q3⟩ := HE.out k hlt
      rw [q1] at d0
      rw [q2] at d1
      rw [q3] at d2
      clear q1 q2 q3
      generalize tkAt l k = t at *
      obtain ⟨t1, t2, t3, t4⟩ := t
      clear hc1 hc2
      go_wp2_with fail
      go_quiet (fail)
      go_wp2
      go_roundw
      case rel => exact ⟨k + 1, by omega, by go_num, below_drewN hb _⟩
      case measure => simp [intOf]; try omega
    · have h1 : ¬ (k : Int) < (l.length : Int) := by omega
      go_wp2
      go_ret
      exact ⟨rfl, hb⟩
set_option maxRecDepth 100000 in
set_option maxHeartbeats 4000000 in
theorem law_blank (v : Int) (w : World) (h0 : 0 ≤ v) (h1 : v ≤ 255) :
    Calls Tryd.prog 22 #[.int .u8 v] w fun e w' => e = .returned (.string (blA (v.toNat % 5))) ∧ Below w.heap.size w w' := by
  obtain ⟨n, rfl⟩ := Int.eq_ofNat_of_zero_le h0
  have e1 : IntKind.i64.wrap (n : Int) = (n : Int) := IntWalk.i64_in _ (by omega)
  obtain ⟨r, hr⟩ : ∃ r, n % 5 = r := ⟨_, rfl⟩
  have hr5 : r < 5 := by omega
  have e2 : (n : Int).tmod 5 = (r : Int) := by rw [Int.tmod_eq_emod_of_nonneg (by omega)]; omega
  rw [Int.toNat_natCast, hr]
  clear hr
  obtain rfl | rfl | rfl | rfl | rfl : r = 0 ∨ r = 1 ∨ r = 2 ∨ r = 3 ∨ r = 4 := by omega
  all_goals
    go_enter Tryd.func22, Tryd.ntmps22
    go_wp2
    go_ret
    exact ⟨rfl, by first | exact (Below.refl _ _).alloc (Nat.le_refl _) _ | go_grown⟩
end Go.Proofs.YtnmofkngengoeaaDoor
