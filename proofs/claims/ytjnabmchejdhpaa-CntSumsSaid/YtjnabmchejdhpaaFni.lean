/- Numbers in memory; contracts of Of and of the law's few of layer 4 (cnt), over the translation. -/
import Derived.Test.YtjnabmchejdhpaaFnh
namespace Go.Proofs.Ytjnabmchejdhpaa
open Go.RowKit

/-- The slice .slice A l.length c is a number in w. -/
structure Nm (w : World) (A : Option Addr) (c : Nat) (l : List Int) : Prop where
  row : RI w w.heap.size A l
  dig : Dig l
  cap : l.length ≤ c
  max : c ≤ maxLen
  nil : A = none → c = 0
theorem Nm.step {w w' : World} {A : Option Addr} {c : Nat} {l : List Int} (h : Nm w A c l) (hb : Below w.heap.size w w') : Nm w' A c l := ⟨h.row.step hb, h.dig, h.cap, h.max, h.nil⟩
theorem Res.nm {w w' : World} {x : Int} {M : Nat} {e : Ending} (h : Res w w' x M e) : ∃ A c l, e = .returned (.slice A l.length c) ∧ Nm w' A c l ∧ nrm l = true ∧ val l = x ∧ l.length ≤ M ∧ Below w.heap.size w w' := by
  obtain ⟨v, s, rfl, hO, hD, hn, hx, hM, hb⟩ := h
  obtain ⟨A, c, rfl, h1, h2, hR, hA⟩ := hO.len_cap
  exact ⟨A, c, s, rfl, ⟨hR, hD, h1, h2, hA⟩, hn, hx, hM, hb⟩

theorem nats2 {w : World} {A B : Option Addr} {ca cb : Nat} {a b : List Int} (t : TypeId) (hA : Nm w A ca a) (hB : Nm w B cb b) :
    NatsAt (w.alloc (.cells #[.slice A a.length ca, .slice B b.length cb] t)) (w.alloc (.cells #[.slice A a.length ca, .slice B b.length cb] t)).heap.size w.heap.size 0 [(A, ca, a), (B, cb, b)] := by
  have hb : Below w.heap.size w (w.alloc (.cells #[.slice A a.length ca, .slice B b.length cb] t)) := (Below.refl _ _).alloc (Nat.le_refl _) _
  have hk := Blk.new w t #[.slice A a.length ca, .slice B b.length cb]
  refine ⟨by simp, fun i hi => ?_, fun i hi => ?_⟩
  · rw [Nat.zero_add, hk.cell]
    rcases i with _ | _ | i
    · rfl
    · rfl
    · exact absurd hi (by simp)
  · rcases i with _ | _ | i
    · exact hA.row.step hb
    · exact hB.row.step hb
    · exact absurd hi (by simp)
theorem nats3 {w : World} {A B C : Option Addr} {ca cb cc : Nat} {a b c : List Int} (t : TypeId) (hA : Nm w A ca a) (hB : Nm w B cb b) (hC : Nm w C cc c) :
    NatsAt (w.alloc (.cells #[.slice A a.length ca, .slice B b.length cb, .slice C c.length cc] t)) (w.alloc (.cells #[.slice A a.length ca, .slice B b.length cb, .slice C c.length cc] t)).heap.size w.heap.size 0 [(A, ca, a), (B, cb, b), (C, cc, c)] := by
  have hb : Below w.heap.size w (w.alloc (.cells #[.slice A a.length ca, .slice B b.length cb, .slice C c.length cc] t)) := (Below.refl _ _).alloc (Nat.le_refl _) _
  have hk := Blk.new w t #[.slice A a.length ca, .slice B b.length cb, .slice C c.length cc]
  refine ⟨by simp, fun i hi => ?_, fun i hi => ?_⟩
  · rw [Nat.zero_add, hk.cell]
    rcases i with _ | _ | _ | i
    · rfl
    · rfl
    · rfl
    · exact absurd hi (by simp)
  · rcases i with _ | _ | _ | i
    · exact hA.row.step hb
    · exact hB.row.step hb
    · exact hC.row.step hb
    · exact absurd hi (by simp)

def fewTo (ns : List Nt) (k : Nat) : Prop := ∀ i (h : i < ns.length), i < k → ns[i].2.2.length ≤ 40
open Classical in
noncomputable def fewF (ns : List Nt) : Bool := decide (fewTo ns ns.length ∧ ns.length ≤ 20)
theorem few_no {ns : List Nt} (h : ¬ (fewTo ns ns.length ∧ ns.length ≤ 20)) : fewF ns = false := by unfold fewF; simpa using h
theorem few_yes {ns : List Nt} (h : fewTo ns ns.length ∧ ns.length ≤ 20) : fewF ns = true := by unfold fewF; simpa using h
set_option maxHeartbeats 2000000 in
theorem law_few (b off cl : Nat) (ns : List Nt) (w : World) (h : NatsAt w w.heap.size b off ns) (hns : ns.length ≤ 100000000) :
    Calls Try.prog 7 #[.slice (some ⟨b, off, none⟩) ns.length cl] w fun e w' => e = .returned (.bool (fewF ns)) ∧ Below w.heap.size w w' := by
  have H := Lib.hid h
  clear h
  go_enter Try.func7, Try.ntmps7
  go_wp2
  go_loopw [7] (fun i wr => ∃ (k : Nat), k ≤ ns.length ∧ i = .int .i64 k ∧ Hid (fewTo ns k) ∧ Below w.heap.size w wr) (fun i _ => ns.length - (intOf i).toNat)
  case atStart => exact ⟨0, Nat.zero_le _, rfl, Lib.hid (fun i h hi => by omega), Below.refl _ _⟩
  case round =>
    obtain ⟨k, hk, rfl, HF, hb⟩ := hrel
    by_cases hlt : k < ns.length
    · have e1 := (hb.cell (p := ⟨b, off + k, none⟩) H.out.lt).trans (H.out.cell k hlt)
      have hlt' : (k : Int) < (ns.length : Int) := by omega
      obtain ⟨m, hm⟩ : ∃ m, ns[k].2.2.length = m := ⟨_, rfl⟩
      rw [hm] at e1
      by_cases h40 : m ≤ 40
      · have h40' : ¬ (40 : Int) < (m : Int) := by omega
        have HF2 : Hid (fewTo ns (k + 1)) := Lib.hid (fun i h hi => by
          rcases Nat.lt_or_ge i k with c | c
          · exact HF.out i h c
          · obtain rfl : i = k := by omega
            omega)
        clear hm
        go_wp2
        go_roundw
        case rel => exact ⟨k + 1, by omega, by go_num, HF2, hb⟩
        case measure => simp [intOf]; omega
      · have h40' : (40 : Int) < (m : Int) := by omega
        have HX : Hid (fewF ns = false) := Lib.hid (few_no (by
          rintro ⟨h1, _⟩
          have := h1 k hlt hlt; omega))
        clear hm
        go_wp2
        go_ret
        exact ⟨by rw [HX.out]; rfl, hb⟩
    · obtain rfl : k = ns.length := by omega
      by_cases h20 : ns.length ≤ 20
      · have h20' : (ns.length : Int) ≤ 20 := by omega
        have HX : Hid (fewF ns = true) := Lib.hid (few_yes ⟨HF.out, h20⟩)
        go_wp2
        go_ret
        exact ⟨by rw [HX.out]; simp; try omega, hb⟩
      · have h20' : ¬ (ns.length : Int) ≤ 20 := by omega
        have HX : Hid (fewF ns = false) := Lib.hid (few_no (fun h => h20 h.2))
        go_wp2
        go_ret
        exact ⟨by rw [HX.out]; simp; try omega, hb⟩

set_option maxHeartbeats 1000000 in
theorem cnt_Of (n : Int) (w : World) (h0 : 0 ≤ n) (h1 : n ≤ 18446744073709551615) :
    Calls Try.prog 29 #[.int .u64 n] w fun e w' => Res w w' n 2 e := by
  have HD : Hid (Dig [n % 4294967296, n / 4294967296]) := Lib.hid (Dig.cons (by omega) (by omega) (Dig.cons (by omega) (by omega) Dig.nil))
  have HV : Hid (val [n % 4294967296, n / 4294967296] = n) := Lib.hid (by show n % 4294967296 + 4294967296 * (n / 4294967296 + 4294967296 * 0) = n; omega)
  have HB := Lib.hid (Blk.lit w [n % 4294967296, n / 4294967296] #[.int .u32 (n % 4294967296), .int .u32 (n / 4294967296)] rfl)
  have HO : Hid (Own (w.alloc (.cells #[.int .u32 (n % 4294967296), .int .u32 (n / 4294967296)] 62)) w.heap.size (.slice (some ⟨w.heap.size, 0, none⟩) 2 2) [n % 4294967296, n / 4294967296]) := Lib.hid (own_blk HB.out (Nat.le_refl _) (by unfold maxLen; simp))
  have HT := Lib.hid (trim_res HO.out HD.out HV.out (Nat.le_refl _) (by simp) ((Below.refl _ _).alloc (Nat.le_refl _) _))
  go_enter Try.func29, Try.ntmps29
  go_wp2_with (go_at_call 36; refine HT.out.mono ?_; rintro e w2 ⟨v', s', rfl, hR⟩; have HR := Lib.hid hR; clear hR)
  go_ret
  exact ⟨v', s', rfl, HR.out⟩
end Go.Proofs.Ytjnabmchejdhpaa
