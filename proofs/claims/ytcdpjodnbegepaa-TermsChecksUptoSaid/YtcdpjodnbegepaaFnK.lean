/- The contract of indices, of layer 30 (terms). -/
import Derived.Test.YtcdpjodnbegepaaFnE
import Derived.Maps.OwnOps
import Derived.Maps.OwnSet
namespace Go.Proofs.Ytcdpjodnbegepaa
open Go.RowKit Go.Maps

theorem law9 : Keyed Try.prog 9 := string_keyed Try.underlying9
theorem make68 (n : Int) (w : World) : (Instr.makeMap 68 (some (.int .i64 n))).run Try.prog w = .ok (.map (some w.heap.size)) (w.alloc (.map #[] 0)) := by kernel_rfl
theorem zero3 (w : World) : (zeroValue 3).run Try.prog w = .ok (.int .i64 0) w := by kernel_rfl
def nkey (m : ByteArray) : Lit := .string m.data.toList
theorem nkey_of {m : ByteArray} (h : m.size ≤ maxLen) : keyOf Try.prog 9 (.string m) = some (nkey m) := WideMaps.keyOf_string_mk Try.underlying9 h
theorem nkey_eq {a b : ByteArray} (h : (a.toList == b.toList) = true) : nkey a = nkey b := by
  unfold nkey
  have := eq_of_beq h
  rw [ByteArray.toList_eq, ByteArray.toList_eq] at this
  rw [this]
theorem nkey_ne {a b : ByteArray} (h : (a.toList == b.toList) = false) : nkey b ≠ nkey a := by
  unfold nkey
  intro e
  have e2 : b.data.toList = a.data.toList := by injection e
  rw [ByteArray.toList_eq, ByteArray.toList_eq, e2] at h
  simp at h
theorem nkey_lit (m : ByteArray) : WideAt.IsKeyLit (nkey m) := by unfold nkey; simp [WideAt.IsKeyLit]
theorem idxN_congr {a b : ByteArray} (h : (a.toList == b.toList) = true) : ∀ l : List Vr, idxN a l = idxN b l
  | [] => rfl
  | v :: r => by
    have := idxN_congr h r
    simp only [idxN, eq_of_beq h, this]
theorem idxN_snoc (x : ByteArray) (v : Vr) : ∀ l : List Vr, idxN x (l ++ [v]) = match idxN x l with | some i => some i | none => if v.nm.toList == x.toList then some l.length else none
  | [] => by simp [idxN]
  | a :: r => by
    have := idxN_snoc x v r
    simp only [List.cons_append, idxN, this]
    split
    · rfl
    · cases h : idxN x r
      · simp
      · simp
/-- The map holds each name's first place. -/
structure Ix (D : DataW Unit) (l : List Vr) : Prop where
  m : IsMap D
  has : ∀ x, Maps.has D (nkey x) = (idxN x l).isSome
  at_ : ∀ x i, idxN x l = some i → ∀ z, D.atKey (nkey x) z = .lit (.int .i64 (i : Int))
theorem Ix.old {D : DataW Unit} {l : List Vr} {v : Vr} (h : Ix D l) (hq : Maps.has D (nkey v.nm) = true) : Ix D (l ++ [v]) := by
  have hs : (idxN v.nm l).isSome = true := by rw [← h.has]; exact hq
  have key : ∀ x, idxN x (l ++ [v]) = idxN x l := fun x => by
    rw [idxN_snoc]
    cases hx : idxN x l with
    | some i => rfl
    | none =>
      show (if v.nm.toList == x.toList then some l.length else none) = none
      rw [if_neg]
      intro e
      rw [idxN_congr e l, hx] at hs
      cases hs
  exact ⟨h.m, fun x => by rw [key]; exact h.has x, fun x i hx => h.at_ x i (by rw [← key]; exact hx)⟩
theorem Ix.new {D : DataW Unit} {l : List Vr} {v : Vr} (h : Ix D l) (hq : Maps.has D (nkey v.nm) = false) : Ix (D.put (nkey v.nm) (.lit (.int .i64 (l.length : Int)))) (l ++ [v]) := by
  have hs : idxN v.nm l = none := by
    have : (idxN v.nm l).isSome = false := by rw [← h.has]; exact hq
    simpa using this
  refine ⟨h.m.put _ _, fun x => ?_, fun x i hx z => ?_⟩
  · rw [idxN_snoc]
    cases e : (v.nm.toList == x.toList) with
    | true =>
      rw [← nkey_eq e, has_put_same h.m (nkey_lit _), ← idxN_congr e l, hs]
      rfl
    | false =>
      rw [has_put_other (nkey_ne e), h.has]
      cases idxN x l <;> rfl
  · rw [idxN_snoc] at hx
    cases e : (v.nm.toList == x.toList) with
    | true =>
      rw [← idxN_congr e l, hs, e] at hx
      rw [← nkey_eq e, atKey_put_same h.m (nkey_lit _)]
      have : l.length = i := by simpa using hx
      rw [this]
    | false =>
      rw [atKey_put_other (nkey_ne e)]
      refine h.at_ x i ?_ z
      rw [e] at hx
      cases hk : idxN x l with
      | some j => rw [hk] at hx; exact hx
      | none => rw [hk] at hx; simp at hx
theorem va_take {l : List Vr} {k : Nat} (h : k < l.length) : l.take (k + 1) = l.take k ++ [va l k] := by
  rw [List.take_succ_eq_append_getElem h]; unfold va; simp [List.getD, List.getElem?_eq_getElem h]
def IdxP (l : List Vr) (w : World) (e : Ending) (w' : World) : Prop := e = .returned (.map (some w.heap.size)) ∧ (∃ D, Ix D l ∧ w'.ownsMap Try.prog 9 (plainElem Try.prog 3) w.heap.size l.length D) ∧ Below w.heap.size w w'
set_option maxRecDepth 100000 in
set_option maxHeartbeats 2000000 in
theorem pr_indices (l : List Vr) (A : Option Addr) (c : Nat) (w : World) (hT : Vars w.heap.size w A l) (hl : l.length ≤ 1000000000) (hn : ∀ i, i < l.length → (va l i).nm.size ≤ maxLen) :
    Calls Try.prog 42 #[.slice A l.length c] w (IdxP l w) := by
  have HT := Lib.hid hT
  have HN := Lib.hid hn
  clear hT hn
  have hmm := make68 (l.length : Int) w
  go_enter Try.func42, Try.ntmps42
  go_wp2
  go_loopw [13] (fun i wr => ∃ k : Nat, k ≤ l.length ∧ i = .int .i64 (k : Int) ∧ Hid (∃ D, Ix D (l.take k) ∧ wr.ownsMap Try.prog 9 (plainElem Try.prog 3) w.heap.size k D) ∧ Below w.heap.size w wr) (fun i _ => l.length - (intOf i).toNat)
  case atStart => exact ⟨0, Nat.zero_le _, rfl, Lib.hid ⟨.map [], ⟨isMap_empty, fun x => rfl, fun x i h => by cases h⟩, World.ownsMap_made _ _ _ _⟩, (Below.refl _ _).alloc (Nat.le_refl _) _⟩
  case round =>
    obtain ⟨k, hk, rfl, HD, hb⟩ := hrel
    by_cases hlt : k < l.length
    · have l1 : (k : Int) < (l.length : Int) := by omega
      obtain ⟨b, f0, rfl, hbl, hc⟩ := HT.out (by omega)
      obtain ⟨c0, c1, c2, c3⟩ := hc k hlt
      have d0 := (hb.cell (p := ⟨b, f0 + k * 4, none⟩) hbl).trans c0
      have d1 := (hb.cell (p := ⟨b, f0 + k * 4 + 1, none⟩) hbl).trans c1
      have d2 := (hb.cell (p := ⟨b, f0 + k * 4 + 2, none⟩) hbl).trans c2
      have d3 := (hb.cell (p := ⟨b, f0 + k * 4 + 3, none⟩) hbl).trans c3
      obtain ⟨D, hix, hown⟩ := HD.out
      have hkey := nkey_of (HN.out k hlt)
      have HTK := Lib.hid (va_take hlt)
      have HIX := Lib.hid hix
      have hbs := hb.size
      have HLT : Hid ((l.take k).length = k) := Lib.hid (by rw [List.length_take]; omega)
      clear hc c0 c1 c2 c3 hix HD
      obtain ⟨q, hq⟩ : ∃ q, Maps.has D (nkey (va l k).nm) = q := ⟨_, rfl⟩
      generalize va l k = v at *
      have HQ := Lib.hid hq
      cases q
      · have HI2 : Hid (Ix (D.put (nkey v.nm) (.lit (.int .i64 (k : Int)))) (l.take (k + 1))) := Lib.hid (by have := HIX.out.new HQ.out; rw [HLT.out] at this; rw [HTK.out]; exact this)
        go_wp2_with (first
          | (at_lookup; refine wpList_lookup_own_ok_int _ rfl _ _ 68 rfl 9 3 .i64 law9 Try.underlying68 Try.underlying3 (zero3 _) w.heap.size k D rfl (hown.alloc _) _ _ rfl hkey ?_; intro c hat hwc; clear hat hwc)
          | (at_mapUpdate; refine wpList_mapUpdate_own _ rfl _ _ _ 68 rfl 9 3 law9 Try.underlying68 _ w.heap.size k D rfl (hown.alloc _) (by unfold maxLen; omega) _ _ _ rfl rfl hkey _ [] (plainElem_int Try.underlying3 (WalkArith.wf_i64 (by omega))) ?_; intro w1 hown1 hgrow1; have HO1 := Lib.hid hown1; have HB1 := Lib.hid ((al hb _).grown hgrow1 (by simp; omega) (fun j hj => by cases hj; exact Nat.le_refl _)); clear hown1 hgrow1))
        go_roundw
        case rel => exact ⟨k + 1, by omega, by go_num, Lib.hid ⟨_, HI2.out, HO1.out⟩, HB1.out⟩
        case measure => simp [intOf]; try omega
      · have HI2 : Hid (Ix D (l.take (k + 1))) := Lib.hid (by rw [HTK.out]; exact HIX.out.old HQ.out)
        have HO1 : Hid (∀ ob, (wr.alloc ob).ownsMap Try.prog 9 (plainElem Try.prog 3) w.heap.size (k + 1) D) := Lib.hid (fun ob => (hown.alloc _).mono (Nat.le_succ _))
        go_wp2_with (first
          | (at_lookup; refine wpList_lookup_own_ok_int _ rfl _ _ 68 rfl 9 3 .i64 law9 Try.underlying68 Try.underlying3 (zero3 _) w.heap.size k D rfl (hown.alloc _) _ _ rfl hkey ?_; intro c hat hwc; clear hat hwc))
        go_roundw
        case rel => exact ⟨k + 1, by omega, by go_num, Lib.hid ⟨_, HI2.out, HO1.out _⟩, al hb _⟩
        case measure => simp [intOf]; try omega
    · have l1 : ¬ (k : Int) < (l.length : Int) := by omega
      obtain rfl : k = l.length := by omega
      have X : Hid (∃ D, Ix D l ∧ wr.ownsMap Try.prog 9 (plainElem Try.prog 3) w.heap.size l.length D) := Lib.hid (by have := HD.out; rw [List.take_length] at this; exact this)
      go_wp2
      go_ret
      exact ⟨rfl, X.out, hb⟩
end Go.Proofs.Ytcdpjodnbegepaa
