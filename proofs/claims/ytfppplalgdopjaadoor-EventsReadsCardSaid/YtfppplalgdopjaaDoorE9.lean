/- read: the event of a line of ASCII bytes; layer 28 (events). -/
import Derived.Test.YtfppplalgdopjaaDoorE8
namespace Go.Proofs.YtfppplalgdopjaaDoor
open Go.RowKit

def fs (s : ByteArray) : List Value := (Lib.fields s.data.toList).map fun l => Value.string ⟨l.toArray⟩
def pt (s : ByteArray) (j : Nat) : ByteArray := ⟨((Lib.fields s.data.toList).getD j []).toArray⟩
theorem fs_at (s : ByteArray) (j : Nat) (hj : j < 3) : (fs s ++ [.string ⟨#[]⟩, .string ⟨#[]⟩, .string ⟨#[]⟩])[j]? = some (.string (pt s j)) := by
  unfold fs pt
  generalize Lib.fields s.data.toList = F
  rcases Nat.lt_or_ge j F.length with c | c
  · rw [List.getElem?_append_left (by rw [List.length_map]; exact c), List.getElem?_map, List.getElem?_eq_getElem c, List.getD_eq_getElem?_getD, List.getElem?_eq_getElem c]
    rfl
  · rw [List.getElem?_append_right (by rw [List.length_map]; exact c), List.length_map, List.getD_eq_getElem?_getD, List.getElem?_eq_none c]
    have : j - F.length < 3 := by omega
    generalize j - F.length = i at *
    rcases i with _ | _ | _ | i
    · rfl
    · rfl
    · rfl
    · omega
def eqS (x y : ByteArray) : Bool := x.toList == y.toList
def kdF (p : ByteArray) : Nat → Int
  | 0 => 0
  | k + 1 => if eqS (wd k) p = true then (k : Int) + 1 else kdF p k
noncomputable def readE (s : ByteArray) : Ev := ⟨(parseF (pt s 1) 1 9223372036854775807).1, kdF (pt s 0) 3, (parseF (pt s 2) 0 9223372036854775807).1⟩
theorem kdF_le (p : ByteArray) : ∀ k, 0 ≤ kdF p k ∧ kdF p k ≤ k
  | 0 => by unfold kdF; omega
  | k + 1 => by
    have := kdF_le p k
    unfold kdF
    split <;> omega
theorem size47 : (Tryd.prog.info? 47).map (·.size) = some 3 := by kernel_rfl
theorem res_47 {fn : Func} {p : Tmp} (h : fn.results = #[.cell p 47]) (tmps : Array Value) (w : World) (g : Nat) (a b c : Value) (hp : tmps.getD p undef = .pointer (some ⟨g, 0, none⟩)) (hg : Blk w g 47 #[a, b, c]) :
    (results fn tmps).run Tryd.prog w = .ok (.agg #[a, b, c]) w := by
  have h2 := run_loadVar_row (P := Tryd.prog) w g 47 47 #[a, b, c] (0, 0) _ hg Tryd.underlying47 rfl size47
  rw [results_cell_one h, hp]
  simp [asAddr, Result.andThen, h2]
theorem info9 : (Tryd.prog.info? 9).map (fun i => (i.zero, i.size, i.bytes)) = some (some (.string ⟨#[]⟩), 1, 16) := by kernel_rfl
theorem gTab : Tryd.prog.globalNamed "strings.asciiSpace" = some 1 := by kernel_rfl
theorem gWords : Tryd.prog.globalNamed "voussoir/events.words" = some 0 := by kernel_rfl
theorem index_words (k : Nat) (hk : k < 3) (w : World) : (Instr.index 57 (.agg [Value.string (wd 0), .string (wd 1), .string (wd 2)].toArray) (.int .i64 (k : Int))).run Tryd.prog w = .ok (.string (wd k)) w := by
  rcases k with _ | _ | _ | k
  all_goals first | (exfalso; omega) | kernel_rfl
theorem Gl.below {w w' : World} (h : Gl w) (hb : Below w.heap.size w w') : ∀ k : Nat, k < 3 → w'.cell? ⟨0, k, none⟩ = some (.string (wd k)) := fun k hk => (hb.cell (p := ⟨0, k, none⟩) (by have := h.lt; show 0 < _; omega)).trans (h.ws k hk)
theorem three_cells (W : World) (Z : Nat) (hZ : W.heap.size = Z) (a b c : Value) (j : Nat) (u : Value) (h : [a, b, c][j]? = some u) : (W.alloc (.cells #[a, b, c] 9)).cell? ((⟨Z, 0, none⟩ : Addr).add j) = some u := by
  subst hZ
  have h0 := (Blk.new W 9 #[a, b, c]).cell j
  have e : (⟨W.heap.size, 0, none⟩ : Addr).add j = ⟨W.heap.size, j, none⟩ := by unfold Addr.add; split <;> simp_all
  rw [e, h0]
  simpa using h
set_option maxRecDepth 100000 in
set_option maxHeartbeats 4000000 in
theorem e_read (s : ByteArray) (w : World) (hG : Gl w) (hs : s.size ≤ 100000) (hps : ∀ j, j < 3 → (pt s j).size ≤ 100000) (hF : (Lib.fields s.data.toList).length ≤ 100000) (hascii : ∀ (j : Nat) b, s.data.toList[j]? = some b → b.toNat < 128) :
    Calls Tryd.prog 29 #[.string s] w fun e w' => e = .returned (.agg #[.int .i64 (readE s).a, .int .i64 (readE s).k, .int .i64 (readE s).l]) ∧ Below w.heap.size w w' := by
  obtain ⟨n, hn⟩ : ∃ n, (Lib.fields s.data.toList).length = n := ⟨_, rfl⟩
  have hfl : (fs s).length = n := by unfold fs; rw [List.length_map, hn]
  have hK0 := Blk.new w 47 #[.int .i64 0, .int .i64 0, .int .i64 0]
  have hB0 : Below w.heap.size w (w.alloc (.cells #[.int .i64 0, .int .i64 0, .int .i64 0] 47)) := below_al _
  have htab : Lib.TabIs Tryd.prog (w.alloc (.cells #[.int .i64 0, .int .i64 0, .int .i64 0] 47)) "strings.asciiSpace" .u8 Lib.asciiSpaceTab := var?_below hB0 gTab hG.lt hG.tab
  obtain ⟨W1, hW1⟩ : ∃ W1, w.alloc (.cells #[.int .i64 0, .int .i64 0, .int .i64 0] 47) = W1 := ⟨_, rfl⟩
  rw [hW1] at hK0 hB0 htab
  have hFC := sh_strings_Fields s W1 (by omega) hascii htab
  rw [hn] at hFC
  have HFC := Lib.hid hFC
  have HG := Lib.hid hG
  clear hG htab hFC
  go_enter Tryd.func29, Tryd.ntmps29
  have HK0 := Lib.hid hK0
  have HB0 := Lib.hid hB0
  have HW1 := Lib.hid hW1
  clear hK0 hB0
  go_upto_region 1 with (fail)
  clear hW1
  have HZ : Hid (w.heap.size < W1.heap.size) := Lib.hid HK0.out.lt
  obtain ⟨W3, hW3⟩ : ∃ W3, (W1.alloc (.cells (fs s).toArray 9)).alloc (.cells #[.string ⟨#[]⟩, .string ⟨#[]⟩, .string ⟨#[]⟩] 9) = W3 := ⟨_, rfl⟩
  obtain ⟨i0, hi0, hz0, hz1, hz2⟩ := info_parts info9
  have HO : Hid (W3.ownsRow (w.heap.size + 1) 9 1 (.slice (some ⟨W1.heap.size, 0, none⟩) n n) n (fs s)) := Lib.hid (by
    rw [← hW3]
    exact World.ownsRow.alloc (by
      have h := World.ownsRow_lit (base := w.heap.size + 1) (e := 9) (size := 1) W1 (fs s).toArray n (by have := HZ.out; omega) (by unfold maxLen; omega) (by simp [hfl])
      simpa using h) _)
  have HC3 : Hid (∀ (j : Nat) (u : Value), [Value.string ⟨#[]⟩, .string ⟨#[]⟩, .string ⟨#[]⟩][j]? = some u → W3.cell? ((⟨W1.heap.size + 1, 0, none⟩ : Addr).add j) = some u) := Lib.hid (fun j u h => by
    rw [← hW3]; exact three_cells _ _ (by simp) _ _ _ j u h)
  have HB3 : Hid (Below W1.heap.size W1 W3) := Lib.hid (by rw [← hW3]; exact ((Below.refl _ _).alloc (Nat.le_refl _) _).alloc (by simp) _)
  have HFS : Hid (fs s = (Lib.fields s.data.toList).map fun l => Value.string ⟨l.toArray⟩) := Lib.hid rfl
  have HW3 := Lib.hid hW3
  clear hW3
  have hz3 : w.heap.size + 1 ≤ W3.heap.size := by have h1 := HZ.out; have h2 := HB3.out.size; omega
  go_upto_region 2 with (first
    | (at_builtin; have e3 := HW3.out; rw [← HFS.out, e3]; (refine wpList_append_own_at _ rfl (.tmp 7) (.tmp 8) 60 rfl (w.heap.size + 1) 9 i0 _ 1 16 Tryd.underlying60 hi0 hz0 hz1 hz2 rfl (by decide) _ n (fs s) rfl HO.out ⟨W1.heap.size + 1, 0, none⟩ 3 3 [Value.string ⟨#[]⟩, .string ⟨#[]⟩, .string ⟨#[]⟩] rfl rfl HC3.out (by simp [Value.oneCell']) (by unfold maxLen; omega) (by omega) hz3 ?_); intro v5 w5 hO5 hg5 _ _; have HO5 := Lib.hid hO5; have HG5 := Lib.hid hg5; clear hO5 hg5)
    | (go_at_call 44; (with_reducible refine HFC.out.mono ?_); rintro e w2 ⟨rfl, rfl⟩))
  obtain ⟨g5, c5, hv5, hga, hgb⟩ := HO5.out.form (by omega)
  subst hv5
  have HW0 := Lib.hid (show Below w.heap.size w W3 from HB0.out.trans (HB3.out.mono HB0.out.size))
  have HB5 : Hid (Below w.heap.size w w5) := Lib.hid (HW0.out.grown HG5.out (by omega) (fun k e => Option.some.inj e ▸ Nat.le_of_lt HZ.out))
  have HK5 : Hid (Blk w5 w.heap.size 47 #[.int .i64 0, .int .i64 0, .int .i64 0]) := Lib.hid (by
    have h1 : Blk W3 w.heap.size 47 #[.int .i64 0, .int .i64 0, .int .i64 0] := HK0.out.below HB3.out HK0.out.lt
    exact (HG5.out.block w.heap.size h1.lt (fun e => absurd (Option.some.inj e) (Nat.ne_of_lt HZ.out))).trans h1)
  have HP5 : Hid (∀ j : Nat, j < 3 → w5.cell? ⟨g5, j, none⟩ = some (.string (pt s j))) := Lib.hid (fun j hj => by
    rw [HO5.out.cellAt j (by omega)]
    exact fs_at s j hj)
  obtain ⟨m, hm⟩ : ∃ m, n + 3 = m := ⟨_, rfl⟩
  rw [hm] at HO5 ⊢
  have m0 : (0 : Int) < (m : Int) := by omega
  have m1 : (1 : Int) < (m : Int) := by omega
  have m2 : (2 : Int) < (m : Int) := by omega
  have HWS : Hid (w5.rangeAt 0 0 [Value.string (wd 0), .string (wd 1), .string (wd 2)]) := Lib.hid (fun j u hj => by
    have h := HG.out.below HB5.out
    rw [Nat.zero_add]
    rcases j with _ | _ | _ | j
    · simp at hj; rw [← hj]; exact h 0 (by decide)
    · simp at hj; rw [← hj]; exact h 1 (by decide)
    · simp at hj; rw [← hj]; exact h 2 (by decide)
    · simp at hj)
  have hne : g5 ≠ w.heap.size := by omega
  clear HG5 HO5 hm hn hfl
  go_upto_region 3 with (refine wpList_load_mid rfl 57 (.global 0) rfl 0 0 rfl [Value.string (wd 0), .string (wd 1), .string (wd 2)] _ HWS.out Tryd.underlying57 rfl (by kernel_rfl) ?_)
  have hgb5 : g5 < w5.heap.size := hgb
  have HKW : Hid (∀ (p : ByteArray) k, 0 ≤ kdF p k ∧ kdF p k ≤ k) := Lib.hid kdF_le
  have HIW := Lib.hid index_words
  obtain ⟨P0, hP0⟩ : ∃ P0, pt s 0 = P0 := ⟨_, rfl⟩
  have hix0 := fun k hk => index_words k hk
  obtain ⟨Z, hZZ⟩ : ∃ Z, [Value.string (wd 0), Value.string (wd 1), Value.string (wd 2)].toArray = Z := ⟨_, rfl⟩
  rw [hZZ] at hix0 ⊢
  have HIX := Lib.hid hix0
  clear hix0 hZZ
  go_loopw [11] (fun i wr => ∃ k : Nat, k ≤ 3 ∧ i = .int .i64 (k : Int) ∧ Hid (Blk wr w.heap.size 47 #[.int .i64 0, .int .i64 (kdF P0 k), .int .i64 0]) ∧ Hid (∀ j : Nat, j < 3 → wr.cell? ⟨g5, j, none⟩ = some (.string (pt s j))) ∧ Hid (Below w.heap.size w wr) ∧ Hid (g5 < wr.heap.size)) (fun i _ => 3 - (intOf i).toNat)
  case atStart => exact ⟨0, by omega, rfl, HK5, HP5, HB5, Lib.hid hgb5⟩
  case round =>
    obtain ⟨k, hk, rfl, HK, HP, HB, HGZ⟩ := hrel
    by_cases hlt : k < 3
    · have l1 : (k : Int) < 3 := by omega
      have hi := HIX.out k hlt
      have y0 : wr.cell? ⟨g5, 0, none⟩ = some (.string P0) := by rw [← hP0]; exact HP.out 0 (by decide)
      have z0 := HK.out.lt
      have z1 := HK.out.frozen 1
      have z2 : wr.cell? ⟨w.heap.size, 1, none⟩ = some (.int .i64 (kdF P0 k)) := HK.out.cell 1
      have wk : IntKind.i64.wrap ((k : Int) + 1) = (k : Int) + 1 := by rw [IntKind.wrap_i64]; omega
      obtain ⟨y, hy⟩ : ∃ y, wd k = y := ⟨_, rfl⟩
      rw [hy] at hi
      obtain ⟨b, hb⟩ : ∃ b, (y.toList == P0.toList) = b := ⟨_, rfl⟩
      cases b
      · have HE : Hid (kdF P0 (k + 1) = kdF P0 k) := Lib.hid (by rw [kdF, if_neg (by unfold eqS; rw [hy, hb]; decide)])
        clear hy hP0
        go_wp2
        go_roundw
        case rel => exact ⟨k + 1, by omega, by go_num, by rw [HE.out]; exact HK, HP, HB, HGZ⟩
        case measure => simp [intOf]; omega
      · have HE : Hid (kdF P0 (k + 1) = (k : Int) + 1) := Lib.hid (by rw [kdF, if_pos (by unfold eqS; rw [hy, hb])])
        have HN1 : Hid (Blk (wr.setCell ⟨w.heap.size, 1, none⟩ (.int .i64 ((k : Int) + 1))) w.heap.size 47 #[.int .i64 0, .int .i64 ((k : Int) + 1), .int .i64 0]) := Lib.hid (HK.out.set_ 1 _)
        have HN2 : Hid (∀ j : Nat, j < 3 → (wr.setCell ⟨w.heap.size, 1, none⟩ (.int .i64 ((k : Int) + 1))).cell? ⟨g5, j, none⟩ = some (.string (pt s j))) := Lib.hid (fun j hj => (World.cell?_of_block (Below.heap_setCell wr _ _ _ (by show g5 ≠ w.heap.size; exact hne))).trans (HP.out j hj))
        have HN3 := Lib.hid (HB.out.setCell (p := ⟨w.heap.size, 1, none⟩) (Nat.le_refl _) (.int .i64 ((k : Int) + 1)))
        have HN4 : Hid (g5 < (wr.setCell ⟨w.heap.size, 1, none⟩ (.int .i64 ((k : Int) + 1))).heap.size) := Lib.hid (by rw [World.size_setCell]; exact HGZ.out)
        clear hy hP0
        go_wp2
        go_roundw
        case rel => exact ⟨k + 1, by omega, by go_num, by rw [HE.out]; exact HN1, HN2, HN3, HN4⟩
        case measure => simp [intOf]; omega
    · obtain rfl : k = 3 := by omega
      have l1 : ¬ ((3 : Nat) : Int) < 3 := by omega
      obtain ⟨P1, hP1⟩ : ∃ P1, pt s 1 = P1 := ⟨_, rfl⟩
      obtain ⟨P2, hP2⟩ : ∃ P2, pt s 2 = P2 := ⟨_, rfl⟩
      have y1 : wr.cell? ⟨g5, 1, none⟩ = some (.string P1) := by rw [← hP1]; exact HP.out 1 (by decide)
      have y2 : wr.cell? ⟨g5, 2, none⟩ = some (.string P2) := by rw [← hP2]; exact HP.out 2 (by decide)
      have s1 := hps 1 (by decide)
      have s2 := hps 2 (by decide)
      have HPA : Hid (∀ wx, Calls Tryd.prog 45 #[.string P1, .int .i64 1, .int .i64 9223372036854775807] wx fun r w' => r = .returned (.tuple #[.int .i64 (parseF P1 1 9223372036854775807).1, .int .i64 (parseF P1 1 9223372036854775807).2]) ∧ wx = w') := Lib.hid (fun wx => num_Parse P1 1 9223372036854775807 wx (by rw [← hP1]; omega) (by decide) (by decide) (by decide) (by decide))
      have HPB : Hid (∀ wx, Calls Tryd.prog 45 #[.string P2, .int .i64 0, .int .i64 9223372036854775807] wx fun r w' => r = .returned (.tuple #[.int .i64 (parseF P2 0 9223372036854775807).1, .int .i64 (parseF P2 0 9223372036854775807).2]) ∧ wx = w') := Lib.hid (fun wx => num_Parse P2 0 9223372036854775807 wx (by rw [← hP2]; omega) (by decide) (by decide) (by decide) (by decide))
      have HRE : Hid (readE s = ⟨(parseF P1 1 9223372036854775807).1, kdF P0 3, (parseF P2 0 9223372036854775807).1⟩) := Lib.hid (by unfold readE; rw [hP0, hP1, hP2])
      obtain ⟨a1, ha1⟩ : ∃ a1, (parseF P1 1 9223372036854775807).1 = a1 := ⟨_, rfl⟩
      obtain ⟨a2, ha2⟩ : ∃ a2, (parseF P1 1 9223372036854775807).2 = a2 := ⟨_, rfl⟩
      obtain ⟨a3, ha3⟩ : ∃ a3, (parseF P2 0 9223372036854775807).1 = a3 := ⟨_, rfl⟩
      obtain ⟨a4, ha4⟩ : ∃ a4, (parseF P2 0 9223372036854775807).2 = a4 := ⟨_, rfl⟩
      obtain ⟨kd, hkd⟩ : ∃ kd, kdF P0 3 = kd := ⟨_, rfl⟩
      rw [ha1, ha2] at HPA
      rw [ha3, ha4] at HPB
      rw [ha1, ha3, hkd] at HRE
      rw [hkd] at HK
      clear ha1 ha2 ha3 ha4 hkd hP0 hP1 hP2 s1 s2
      have z0 := HK.out.lt
      have z1 := HK.out.frozen 0
      have z2 := HK.out.frozen 1
      have z3 := HK.out.frozen 2
      have z4 : wr.cell? ⟨w.heap.size, 0, none⟩ = some (.int .i64 0) := HK.out.cell 0
      have z5 : wr.cell? ⟨w.heap.size, 1, none⟩ = some (.int .i64 kd) := HK.out.cell 1
      have z6 : wr.cell? ⟨w.heap.size, 2, none⟩ = some (.int .i64 0) := HK.out.cell 2
      have z7 := HGZ.out
      go_upto_region 10 with (go_at_call 45; (with_reducible first | refine (HPA.out _).mono ?_ | refine (HPB.out _).mono ?_); rintro e w9 ⟨rfl, rfl⟩)
      obtain ⟨V, hV⟩ : ∃ V, (wr.setCell ⟨w.heap.size, 0, none⟩ (.int .i64 a1)).setCell ⟨w.heap.size, 2, none⟩ (.int .i64 a3) = V := ⟨_, rfl⟩
      have HKV : Hid (Blk V w.heap.size 47 #[.int .i64 a1, .int .i64 kd, .int .i64 a3]) := Lib.hid (by rw [← hV]; exact (HK.out.set_ 0 _).set_ 2 _)
      have HBV : Hid (Below w.heap.size w V) := Lib.hid (by rw [← hV]; exact (HB.out.setCell (p := ⟨w.heap.size, 0, none⟩) (Nat.le_refl _) _).setCell (p := ⟨w.heap.size, 2, none⟩) (Nat.le_refl _) _)
      rw [hV]
      clear hV z0 z1 z2 z3 z4 z5 z6 z7 y1 y2
      have z0 := HKV.out.lt
      have z1 := HKV.out.frozen 0
      have z2 := HKV.out.frozen 1
      have z3 := HKV.out.frozen 2
      have z4 : V.cell? ⟨w.heap.size, 0, none⟩ = some (.int .i64 a1) := HKV.out.cell 0
      have z5 : V.cell? ⟨w.heap.size, 1, none⟩ = some (.int .i64 kd) := HKV.out.cell 1
      have z6 : V.cell? ⟨w.heap.size, 2, none⟩ = some (.int .i64 a3) := HKV.out.cell 2
      go_wp2
      refine bodyPost_ret (res_47 rfl _ _ w.heap.size _ _ _ rfl (((HKV.out.set_ 0 _).set_ 1 _).set_ 2 _)) rfl ⟨by rw [HRE.out], ?_⟩
      exact ((HBV.out.setCell (p := ⟨w.heap.size, 0, none⟩) (Nat.le_refl _) _).setCell (p := ⟨w.heap.size, 1, none⟩) (Nat.le_refl _) _).setCell (p := ⟨w.heap.size, 2, none⟩) (Nat.le_refl _) _
end Go.Proofs.YtfppplalgdopjaaDoor
