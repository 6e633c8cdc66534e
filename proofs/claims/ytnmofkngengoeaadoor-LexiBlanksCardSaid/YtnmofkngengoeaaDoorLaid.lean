/- What the listed variables' condition gives: the two tables lie in the world; layer 29 (lexi). -/
import Derived.Test.YtnmofkngengoeaaDoorFn1
import Derived.LaidMore
import Derived.Stop.Joined
namespace Go.Proofs.YtnmofkngengoeaaDoor
open Go.ChangeShapes Go.WideShapes Go.ChangeAt Go.RowKit

theorem own : ownKnob Tryd.prog.godebug = none := by kernel_rfl
theorem laidOut : laidOutB Tryd.prog = true := by kernel_rfl
abbrev laid2 : List (String × DataW Unit) := [("voussoir/lexi.words", Rows.laid_voussoir_lexi_words), ("voussoir/lexi.signs", Rows.laid_voussoir_lexi_signs)]
theorem gWords : Tryd.prog.globalNamed "voussoir/lexi.words" = some 0 := by kernel_rfl
theorem gSigns : Tryd.prog.globalNamed "voussoir/lexi.signs" = some 1 := by kernel_rfl
theorem tWords : (Tryd.prog.globals[0]?).map (·.type) = some 56 := by kernel_rfl
theorem tSigns : (Tryd.prog.globals[1]?).map (·.type) = some 58 := by kernel_rfl
theorem door_met (os : Os) (args : Array Value) : laidMetH Tryd.prog laid2 ((World.doorLaid Tryd.prog 400 os).forCall (fun _ _ => 0) ⟨#[], args, []⟩).memory :=
  laidMetH_of_parts3 (fuel := 8) (laidMet_of_run' 8 (by kernel_rfl) (by kernel_rfl)) (by kernel_rfl) (by kernel_rfl)
theorem strs_of_trod {H : Type} {enc : TypeId × Value → H} {W : World} {sp : Nat → Bool} {held : Bool} {fuel : Nat} {t : TypeId} {n : Nat} {cs : Array Value} {L : List ByteArray} {p : List MemPlace} (ht : Tryd.prog.underlying t = some (.array n 9)) (hct : Tryd.prog.cellsOf t = n) (hL : L.length = n)
    (hd : DataW.trod enc Tryd.prog W 0 sp held fuel t cs.toList = some (.agg (L.map fun s => .lit (.string s.data.toList)), p)) : cs.toList = L.map Value.string := by
  have c9 : Tryd.prog.cellsOf 9 = 1 := by kernel_rfl
  obtain ⟨xs, m1, rfl, hx1, hlen, hn3, hel⟩ := DataW.trod_array ht hd
  injection hx1 with hx1 _
  injection hx1 with hx1
  rw [hct] at hlen
  apply List.ext_getElem (by rw [hlen, List.length_map, hL])
  intro i h1 h2
  have hi : i < n := by omega
  have h := hel i hi
  rw [c9, Nat.mul_one] at h
  have hxi : xs[i]? = some xs[i] := List.getElem?_eq_getElem (by omega)
  rw [hxi] at h
  obtain ⟨s, e1, e2, _⟩ := DataW.trod_string Tryd.underlying9 h
  have e3 : List.take 1 (List.drop i cs.toList) = [cs.toList[i]] := by
    rw [List.drop_eq_getElem_cons h1]; rfl
  rw [e3] at e1
  injection e1 with e1 _
  have e4 : (L.map fun s => (DataW.lit (.string s.data.toList) : DataW H))[i]? = (xs.map fun x => x.fst)[i]? := by rw [hx1]
  rw [List.getElem?_map, List.getElem?_map, List.getElem?_eq_getElem (show i < L.length by omega), hxi] at e4
  simp only [Option.map_some, e2] at e4
  injection e4 with e4
  injection e4 with e4
  injection e4 with e4
  have e5 : L[i] = s := by
    have : L[i].data = s.data := by
      apply Array.toList_inj.1; exact e4
    cases hL2 : L[i]; cases s; rw [hL2] at this; simp at this; rw [this]
  rw [e1, List.getElem_map, e5]
theorem cell_lt {w : World} {a : Addr} {v : Value} (h : w.cell? a = some v) : a.block < w.heap.size := by
  rcases Nat.lt_or_ge a.block w.heap.size with hlt | hge
  · exact hlt
  · have : w.heap[a.block]? = none := Array.getElem?_eq_none hge
    simp [World.cell?, this] at h
theorem of_laid {W : World} (h : laidMetH Tryd.prog laid2 W) : Glob W := by
  rw [MakeChecks.laidMetH_plain _ _ _ (by kernel_rfl)] at h
  obtain ⟨ps, ⟨g0, t0, cs0, f0, p0, q0, hg0, ht0, hv0, hd0, ⟨g1, t1, cs1, f1, p1, q1, hg1, ht1, hv1, hd1, _, _⟩, _⟩, _, _⟩ := h
  obtain rfl := Option.some.inj (gWords.symm.trans hg0)
  obtain rfl := Option.some.inj (gSigns.symm.trans hg1)
  obtain rfl := Option.some.inj (tWords.symm.trans ht0)
  obtain rfl := Option.some.inj (tSigns.symm.trans ht1)
  have e0 : cs0.toList = words.map Value.string := strs_of_trod (L := words) Tryd.underlying56 (by kernel_rfl) rfl hd0
  have e1 : cs1.toList = signs.map Value.string := strs_of_trod (L := signs) Tryd.underlying58 (by kernel_rfl) rfl hd1
  have r0 : W.rangeAt 0 0 (words.map Value.string) := fun j v hv => by
    rw [World.var?_cell hg0 hv0, Nat.zero_add, ← Array.getElem?_toList, e0]; exact hv
  have r1 : W.rangeAt 1 0 (signs.map Value.string) := fun j v hv => by
    rw [World.var?_cell hg1 hv1, Nat.zero_add, ← Array.getElem?_toList, e1]; exact hv
  exact ⟨r0, r1, cell_lt (r1 0 _ rfl)⟩
end Go.Proofs.YtnmofkngengoeaaDoor
