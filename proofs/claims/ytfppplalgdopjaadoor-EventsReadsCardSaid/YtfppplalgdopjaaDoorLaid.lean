/- What the listed variables' condition gives: the words and the table of blanks lie in the world; layer 28 (events). -/
import Derived.Test.YtfppplalgdopjaaDoorE7
import Derived.LaidMore
import Derived.Stop.Joined
import Derived.LaidOnce
namespace Go.Proofs.YtfppplalgdopjaaDoor
open Go.ChangeShapes Go.WideShapes Go.ChangeAt Go.RowKit

theorem own : ownKnob Tryd.prog.godebug = none := by kernel_rfl
theorem laidOut : laidOutB Tryd.prog = true := by kernel_rfl
abbrev laid3 : List (String × DataW Unit) := [("unicode.White_Space", Rows.laid_unicode_White_Space), ("strings.asciiSpace", Rows.laid_strings_asciiSpace), ("voussoir/events.words", Rows.laid_voussoir_events_words)]
theorem gWordsL : Tryd.prog.globalNamed "voussoir/events.words" = some 0 := by kernel_rfl
theorem gTabL : Tryd.prog.globalNamed "strings.asciiSpace" = some 1 := by kernel_rfl
theorem tWords : (Tryd.prog.globals[0]?).map (·.type) = some 57 := by kernel_rfl
theorem tTab : (Tryd.prog.globals[1]?).map (·.type) = some 117 := by kernel_rfl
set_option maxRecDepth 100000 in
theorem leaves (os : Os) (tape : Tape) : doorLeaves Tryd.prog 38 8 257 laid3 os tape = some (laid3.filter fun x => x.2.handleName?.isNone, (funcsListed laid3).map (·.2.funcsOut)) := by kernel_rfl
theorem met_of_leaves {P : Program} {n fuel M : Nat} {laid : List (String × DataW Unit)} {os : Os} {tape : Tape} (d : doorLeaves P n fuel M laid os tape = some (laid.filter fun x => x.2.handleName?.isNone, (funcsListed laid).map (·.2.funcsOut))) :
    laidMetH P laid (varsWorld P n (varsId P) os tape).memory := by
  unfold doorLeaves at d
  split at d
  · rename_i v w hr
    have hw : varsWorld P n (varsId P) os tape = w := by unfold varsWorld; rw [hr]
    rw [hw]
    simp only [Option.bind_eq_some_iff] at d
    obtain ⟨x, hx, d⟩ := d
    split at d
    · rename_i hb
      simp only [Bool.and_eq_true] at hb
      simp only [Option.map_eq_some_iff, Prod.mk.injEq] at d
      obtain ⟨y, hy, e1, e2⟩ := d
      exact laidMetH_of_parts3 (fuel := fuel) (laidMet_of_run (ps := x.2) fuel (by rw [hx, ← e1]) (decide_eq_true (nodupBits_sound hb.1.1).1) hb.1.2) hb.2 (by rw [hy, e2])
    · cases d
  · cases d
theorem heap_door (P : Program) (n : Nat) (os : Os) (args : Array Value) : (varsWorld P n (varsId P) os (fun _ _ => 0)).memory.heap = ((World.doorLaid P n os).forCall (fun _ _ => 0) ⟨#[], args, []⟩).memory.heap := rfl
theorem door_met (os : Os) (args : Array Value) : laidMetH Tryd.prog laid3 ((World.doorLaid Tryd.prog 38 os).forCall (fun _ _ => 0) ⟨#[], args, []⟩).memory :=
  (met_of_leaves (leaves os (fun _ _ => 0))).of_heap (heap_door _ _ _ _)
theorem strs_of_trod {H : Type} {enc : TypeId × Value → H} {W : World} {sp : Nat → Bool} {held : Bool} {fuel : Nat} {t : TypeId} {n : Nat} {cs : Array Value} {L : List ByteArray} {p : List MemPlace} (ht : Tryd.prog.underlying t = some (.array n 9)) (hct : Tryd.prog.cellsOf t = n) (hL : L.length = n)
    (hd : DataW.trod enc Tryd.prog W 0 sp held fuel t cs.toList = some (.agg (L.map fun s => .lit (.string s.data.toList)), p)) : cs.toList = L.map Value.string := by
  have c9 : Tryd.prog.cellsOf 9 = 1 := by kernel_rfl
  obtain ⟨xs, m1, rfl, hx1, hlen, hn3, hel⟩ := DataW.trod_array ht hd
  replace hx1 := DataW.agg.inj (congrArg Prod.fst hx1)
  rw [hct] at hlen
  apply List.ext_getElem (by rw [hlen, List.length_map, hL])
  intro i h1 h2
  have hi : i < n := by omega
  have h := hel i hi
  rw [c9, Nat.mul_one] at h
  have hxi : xs[i]? = some xs[i] := List.getElem?_eq_getElem (by omega)
  rw [hxi] at h
  obtain ⟨s, e1, e2, _⟩ := DataW.trod_string Tryd.underlying9 h
  have e3 : List.take 1 (List.drop i cs.toList) = [cs.toList[i]] := by
    rw [List.drop_eq_getElem_cons h1]; rfl
  rw [e3] at e1
  replace e1 := (List.cons.inj e1).1
  have e4 : (L.map fun s => (DataW.lit (.string s.data.toList) : DataW H))[i]? = (xs.map fun x => x.fst)[i]? := by rw [hx1]
  rw [List.getElem?_map, List.getElem?_map, List.getElem?_eq_getElem (show i < L.length by omega), hxi] at e4
  simp only [Option.map_some, e2] at e4
  replace e4 := Lit.string.inj (DataW.lit.inj (Option.some.inj e4))
  have e5 : L[i] = s := by
    have : L[i].data = s.data := by
      apply Array.toList_inj.1; exact e4
    cases hL2 : L[i]; cases s; rw [hL2] at this; simp at this; rw [this]
  rw [e1, List.getElem_map, e5]
theorem cell_lt {w : World} {a : Addr} {v : Value} (h : w.cell? a = some v) : a.block < w.heap.size := by
  rcases Nat.lt_or_ge a.block w.heap.size with hlt | hge
  · exact hlt
  · have : w.heap[a.block]? = none := Array.getElem?_eq_none hge
    simp [World.cell?, this] at h
theorem tab_data : (Rows.laid_strings_asciiSpace : DataW Unit) = Lib.tabData .u8 Lib.asciiSpaceTab := by kernel_rfl
set_option maxRecDepth 100000 in
theorem of_laid {W : World} (h : laidMetH Tryd.prog laid3 W) : Gl W := by
  rw [MakeChecks.laidMetH_plain _ _ _ (by kernel_rfl)] at h
  obtain ⟨ps, ⟨g0, t0, cs0, f0, p0, q0, hg0, ht0, hv0, hd0, ⟨g1, t1, cs1, f1, p1, q1, hg1, ht1, hv1, hd1, ⟨g2, t2, cs2, f2, p2, q2, hg2, ht2, hv2, hd2, _, _⟩, _⟩, _⟩, _, _⟩ := h
  obtain rfl := Option.some.inj (gTabL.symm.trans hg1)
  obtain rfl := Option.some.inj (gWordsL.symm.trans hg2)
  obtain rfl := Option.some.inj (tTab.symm.trans ht1)
  obtain rfl := Option.some.inj (tWords.symm.trans ht2)
  have e2 : cs2.toList = [wd 0, wd 1, wd 2].map Value.string := strs_of_trod (L := [wd 0, wd 1, wd 2]) Tryd.underlying57 (by kernel_rfl) rfl hd2
  rw [tab_data] at hd1
  have e1 : cs1.toList = Lib.asciiSpaceTab.map fun z => Value.int .u8 z := Lib.cells_of_tab (n := 256) (e := 5) Tryd.underlying117 Tryd.underlying5 (by kernel_rfl) (by kernel_rfl) hd1
  have hw : ∀ k : Nat, k < 3 → W.cell? ⟨0, k, none⟩ = some (.string (wd k)) := fun k hk => by
    rw [World.var?_cell hg2 hv2, ← Array.getElem?_toList, e2]
    rcases k with _ | _ | _ | k
    · rfl
    · rfl
    · rfl
    · omega
  have ht : Lib.TabIs Tryd.prog W "strings.asciiSpace" .u8 Lib.asciiSpaceTab := by
    unfold Lib.TabIs
    rw [hv1, ← e1]
  have hc := ht.cell gTabL 0 (by decide)
  exact ⟨hw, ht, cell_lt hc⟩
end Go.Proofs.YtfppplalgdopjaaDoor
