/- The walk of CntSums of layer 4 (cnt), over the translation. -/
import Derived.Test.YtjnabmchejdhpaaWk3
import Derived.Test.YtjnabmchejdhpaaDsub
import Derived.Test.YtjnabmchejdhpaaOpen
import Derived.Deep.Matrix
namespace Go.Proofs.Ytjnabmchejdhpaa
open Go.RowKit Go.WideShapes Go.ChangeShapes

/-- The slice .slice A ns.length c is a list of numbers in w. -/
def NL (w : World) (A : Option Addr) (ns : List Nt) : Prop := (0 < ns.length → ∃ b off, A = some ⟨b, off, none⟩ ∧ b < w.heap.size ∧ ∀ i (h : i < ns.length), w.cell? ⟨b, off + i, none⟩ = some (.slice ns[i].1 ns[i].2.2.length ns[i].2.1)) ∧ ∀ i (h : i < ns.length), Nm w ns[i].1 ns[i].2.1 ns[i].2.2
theorem NL.step {w w' : World} {A : Option Addr} {ns : List Nt} (h : NL w A ns) (hb : Below w.heap.size w w') : NL w' A ns := by
  refine ⟨fun hp => ?_, fun i hi => (h.2 i hi).step hb⟩
  obtain ⟨b, off, e, hB, hc⟩ := h.1 hp
  exact ⟨b, off, e, Nat.lt_of_lt_of_le hB hb.size, fun i hi => (hb.cell (p := ⟨b, off + i, none⟩) hB).trans (hc i hi)⟩
theorem NL.at {w : World} {b off : Nat} {ns : List Nt} (h : NL w (some ⟨b, off, none⟩) ns) (hp : 0 < ns.length) : NatsAt w w.heap.size b off ns := by
  obtain ⟨b2, off2, e, hB, hc⟩ := h.1 hp
  injection e with e
  injection e with e1 e2
  subst e1 e2
  exact ⟨hB, hc, fun i hi => (h.2 i hi).row⟩
set_option maxHeartbeats 2000000 in
theorem law_few_big (b off cl : Nat) (ns : List Nt) (w : World) (h : NatsAt w w.heap.size b off ns) (hns : ns.length ≤ maxLen) :
    Calls Try.prog 7 #[.slice (some ⟨b, off, none⟩) ns.length cl] w fun e w' => e = .returned (.bool (fewF ns)) ∧ Below w.heap.size w w' := by
  unfold maxLen at hns
  have H := Lib.hid h
  clear h
  go_enter Try.func7, Try.ntmps7
  go_wp2
  go_loopw [7] (fun i wr => ∃ (k : Nat), k ≤ ns.length ∧ i = .int .i64 k ∧ Hid (fewTo ns k) ∧ Below w.heap.size w wr) (fun i _ => ns.length - (intOf i).toNat)
  case atStart => exact ⟨0, Nat.zero_le _, rfl, Lib.hid (fun i h hi => by omega), Below.refl _ _⟩
  case round =>
    obtain ⟨k, hk, rfl, HF, hb⟩ := hrel
    by_cases hlt : k < ns.length
    · have e1 := (hb.cell (p := ⟨b, off + k, none⟩) H.out.lt).trans (H.out.cell k hlt)
      have hlt' : (k : Int) < (ns.length : Int) := by omega
      obtain ⟨m, hm⟩ : ∃ m, ns[k].2.2.length = m := ⟨_, rfl⟩
      rw [hm] at e1
      by_cases h40 : m ≤ 40
      · have h40' : ¬ (40 : Int) < (m : Int) := by omega
        have HF2 : Hid (fewTo ns (k + 1)) := Lib.hid (fun i h hi => by
          rcases Nat.lt_or_ge i k with c | c
          · exact HF.out i h c
          · obtain rfl : i = k := by omega
            omega)
        clear hm
        go_wp2
        go_roundw
        case rel => exact ⟨k + 1, by omega, by go_num, HF2, hb⟩
        case measure => simp [intOf]; omega
      · have h40' : (40 : Int) < (m : Int) := by omega
        have HX : Hid (fewF ns = false) := Lib.hid (few_no (by
          rintro ⟨h1, _⟩
          have := h1 k hlt hlt; omega))
        clear hm
        go_wp2
        go_ret
        exact ⟨by rw [HX.out]; rfl, hb⟩
    · obtain rfl : k = ns.length := by omega
      by_cases h20 : ns.length ≤ 20
      · have h20' : (ns.length : Int) ≤ 20 := by omega
        have HX : Hid (fewF ns = true) := Lib.hid (few_yes ⟨HF.out, h20⟩)
        go_wp2
        go_ret
        exact ⟨by rw [HX.out]; simp; try omega, hb⟩
      · have h20' : ¬ (ns.length : Int) ≤ 20 := by omega
        have HX : Hid (fewF ns = false) := Lib.hid (few_no (fun h => h20 h.2))
        go_wp2
        go_ret
        exact ⟨by rw [HX.out]; simp; try omega, hb⟩
theorem few_nil : fewF [] = true := few_yes ⟨fun i h => absurd h (by simp), by simp⟩
set_option maxHeartbeats 2000000 in
theorem few_list (A : Option Addr) (c : Nat) (ns : List Nt) (w : World) (h : NL w A ns) (hns : ns.length ≤ maxLen) :
    Calls Try.prog 7 #[.slice A ns.length c] w fun e w' => e = .returned (.bool (fewF ns)) ∧ Below w.heap.size w w' := by
  rcases Nat.eq_zero_or_pos ns.length with h0 | h0
  · obtain rfl : ns = [] := List.eq_nil_of_length_eq_zero h0
    rw [few_nil]
    go_enter Try.func7, Try.ntmps7
    go_wp2
    go_loopw [7] (fun i wr => i = .int .i64 0 ∧ w = wr) (fun _ _ => 0)
    case atStart => exact ⟨rfl, rfl⟩
    case round =>
      obtain ⟨rfl, rfl⟩ := hrel
      go_wp2
      go_ret
      exact ⟨rfl, Below.refl _ _⟩
  · obtain ⟨b, off, rfl, _⟩ := h.1 h0
    exact law_few_big b off c ns w (h.at h0) hns
set_option maxHeartbeats 2000000 in
theorem add_list (A : Option Addr) (c : Nat) (ns : List Nt) (w : World) (h : NL w A ns) (hns : ns.length ≤ 20) (hM : ∀ i (h : i < ns.length), ns[i].2.2.length ≤ 40) :
    Calls Try.prog 14 #[.slice A ns.length c] w fun e w' => Res w w' (sumV ns) 60 e := by
  rcases Nat.eq_zero_or_pos ns.length with h0 | h0
  · obtain rfl : ns = [] := List.eq_nil_of_length_eq_zero h0
    have HTR := Lib.hid (trim_res (w := w) (wr := w) (A := none) (c := 0) (l := []) (x := 0) (M := 60) (Own.nil _ _) Dig.nil rfl (by simp) (by simp) (Below.refl _ _))
    go_enter Try.func14, Try.ntmps14
    go_wp2
    go_loopw [3, 8] (fun x i wr => x = .slice none 0 0 ∧ i = .int .i64 0 ∧ w = wr) (fun _ _ _ => 0)
    case atStart => exact ⟨rfl, rfl, rfl⟩
    case round =>
      obtain ⟨rfl, rfl, rfl⟩ := hrel
      go_wp2_with (go_at_call 36; refine HTR.out.mono ?_; rintro e w1 ⟨v', s', rfl, hR⟩; have HR := Lib.hid hR; clear hR)
      go_ret
      exact ⟨_, _, rfl, HR.out⟩
  · obtain ⟨b, off, rfl, _⟩ := h.1 h0
    refine (cnt_Add b off c 40 ns w (h.at h0) (fun i hi => (h.2 i hi).dig) hM (by omega) (by omega)).mono ?_
    rintro e w' ⟨v, s, rfl, h1, h2, h3, h4, h5, h6⟩
    exact ⟨v, s, rfl, h1, h2, h3, h4, by omega, h6⟩
theorem nl_open {H : Type} {enc : TypeId × Value → H} {w : World} {r : Reach} {b0 : Nat} {v : Value} {d : DataW H} {p : List MemPlace}
    (hv : Value.okWide Try.prog w r b0 22 v) (h : DataW.Trod enc Try.prog w 0 (fun _ => true) true 22 v d p) :
    ∃ (A : Option Addr) (c : Nat) (ns : List Nt), v = .slice A ns.length c ∧ NL w A ns ∧ ns.length ≤ maxLen := by
  obtain ⟨A, len, cap, rfl⟩ := okWide_slice Try.underlying22 hv
  obtain ⟨fuel, hf⟩ := h
  rcases Go.Deep.open_int_rows Try.underlying22 Try.underlying24 Try.underlying62 (by kernel_rfl) (by kernel_rfl) hf with ⟨hcs, _⟩ | ⟨x, l, c, Ad, L, C, Z, hcs, _, hl, hm, _, hrow⟩
  · simp [Value.cells] at hcs
    obtain ⟨rfl, rfl, rfl⟩ := hcs
    exact ⟨none, 0, [], rfl, ⟨fun h => absurd h (by simp), fun i hi => absurd hi (by simp)⟩, Nat.zero_le _⟩
  · simp [Value.cells] at hcs
    obtain ⟨rfl, rfl, rfl⟩ := hcs
    have ha : ∀ (b off j : Nat), (⟨b, off, none⟩ : Addr).add j = ⟨b, off + j, none⟩ := fun b off j => by unfold Addr.add; split <;> simp_all
    have hlen : ((List.range len).map fun r => ((Ad r, C r, (Z r).take (L r)) : Nt)).length = len := by simp
    have hzl : ∀ i, i < len → ((Z i).take (L i)).length = L i := fun i hi => by
      obtain ⟨_, h2, _, h4, _⟩ := hrow i (by omega)
      rw [List.length_take]; omega
    refine ⟨some x, cap, (List.range len).map fun r => (Ad r, C r, (Z r).take (L r)), by rw [hlen], ⟨fun hp => ?_, fun i hi => ?_⟩, by rw [hlen]; omega⟩
    · rw [hlen] at hp
      have hc0 := (hrow 0 (by omega)).1
      have hlt := cell_lt hc0
      obtain ⟨b, off, spot⟩ := x
      have hspot : spot = none := by simpa [Addr.add] using World.cell?_spot hc0
      subst hspot
      refine ⟨b, off, rfl, by simpa [ha] using hlt, fun i hi => ?_⟩
      have hi2 : i < len := by rw [hlen] at hi; exact hi
      have := (hrow i (by omega)).1
      rw [ha] at this
      rw [this]
      simp only [List.getElem_map, List.getElem_range]
      rw [hzl i hi2]
    · have hi2 : i < len := by rw [hlen] at hi; exact hi
      simp only [List.getElem_map, List.getElem_range]
      obtain ⟨_, h2, h3, h4, h5, h6, h7⟩ := hrow i (by omega)
      refine ⟨fun hp => ?_, fun d hd => ?_, by rw [hzl i hi2]; exact h2, h3, h6⟩
      · rw [hzl i hi2] at hp
        cases hA : Ad i with
        | none => have := h6 hA; omega
        | some a' =>
          obtain ⟨_, hcc⟩ := h7 a' hA
          have hc0 := hcc 0 (by omega)
          have hlt := cell_lt hc0
          obtain ⟨b, off, spot⟩ := a'
          have hspot : spot = none := by simpa [Addr.add] using World.cell?_spot hc0
          subst hspot
          refine ⟨b, off, rfl, by simpa [ha] using hlt, fun j hj => ?_⟩
          rw [hzl i hi2] at hj
          have := hcc j (by omega)
          rw [ha] at this
          rw [this]
          unfold li
          simp [List.getD, hj]
      · have h1 := bounds_u32 (h5 d (List.mem_of_mem_take hd))
        omega
theorem sub_gen {w : World} {A B : Option Addr} {ca cb : Nat} {a b : List Int} (hA : Nm w A ca a) (hB : Nm w B cb b) (hal : a.length ≤ 40) (hbl : b.length ≤ 40) (ok : Bool) (ho : decide (val b ≤ val a) = ok) :
    Calls Try.prog 12 #[.slice A a.length ca, .slice B b.length cb] w fun e w' => ∃ D d l, e = .returned (.tuple #[.slice D l.length d, .bool ok]) ∧ Nm w' D d l ∧ nrm l = true ∧ (ok = true → val l = val a - val b) ∧ (ok = false → l = []) ∧ l.length ≤ 40 ∧ Below w.heap.size w w' := by
  by_cases h : val b ≤ val a
  · obtain rfl : ok = true := by rw [← ho]; simp [h]
    refine (cnt_Sub_yes A B ca cb a b w hA.row hB.row hA.dig hB.dig (by omega) (by omega) hA.cap hB.cap hA.max hB.max h).mono ?_
    rintro e w' ⟨v, rfl, hR⟩
    obtain ⟨D, d, l, e, hN, hn, hv, hl, hb⟩ := hR.nm
    injection e with e
    subst e
    exact ⟨D, d, l, rfl, hN, hn, fun _ => hv, (fun e => by cases e), by omega, hb⟩
  · obtain rfl : ok = false := by rw [← ho]; simp [h]
    refine (sub_ex hA hB (by omega) (by omega) (by omega)).mono ?_
    rintro e w' ⟨rfl, hb⟩
    exact ⟨none, 0, [], rfl, Nm.none _, rfl, (fun e => by cases e), fun _ => rfl, by simp, hb⟩
theorem right_gen {w : World} {A : Option Addr} {ca : Nat} {a : List Int} (hA : Nm w A ca a) (hal : a.length ≤ 40) (n : Bool) (hn : nrm a = n) :
    Calls Try.prog 16 #[.slice A a.length ca] w fun e w' => e = .returned (.bool n) ∧ Below w.heap.size w w' := by
  have h := cnt_Right A ca a w hA.row (by omega)
  rwa [hn] at h
theorem refright_gen {w : World} {A : Option Addr} {ca : Nat} {a : List Int} (hA : Nm w A ca a) (hal : a.length ≤ 40) (n : Bool) (hn : nrm a = n) :
    Calls Try.prog 17 #[.slice A a.length ca] w fun e w' => e = .returned (.bool n) ∧ w = w' := by
  have h := ref_Right A ca a w hA.row (by omega)
  rwa [hn] at h
end Go.Proofs.Ytjnabmchejdhpaa
