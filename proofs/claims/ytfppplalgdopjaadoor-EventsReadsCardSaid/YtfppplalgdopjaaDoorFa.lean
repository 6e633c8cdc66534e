/- read: the event of any line, valid UTF-8 or not; layer 28 (events). -/
import Derived.Test.YtfppplalgdopjaaDoorE9
import Derived.Shelf.Strings.FieldsAny
namespace Go.Proofs.YtfppplalgdopjaaDoor
open Go.RowKit

theorem hi9F : (Tryd.prog.info? (lays157_ren.t 9)).map (fun i => (i.zero, i.size, i.bytes)) = some (some (.string ByteArray.empty), 1, 16) := by kernel_rfl
theorem hi154F : (Tryd.prog.info? (lays157_ren.t 154)).map (fun i => (i.zero, i.size, i.bytes)) = some (some (.agg #[.int .i64 0, .int .i64 0]), 2, 16) := by kernel_rfl
/-- The listed range table lies in w. -/
def Wt (w : World) : Prop := Lib.WhiteTab (lays157_ren.g 6) w
theorem Wt.below {w w' : World} (h : Wt w) (hb : Below w.heap.size w w') : Wt w' := WhiteTab_below h hb
theorem sh_Fields_any (s : ByteArray) (w : World) (hs : s.size < 4294967281) (htab : Lib.TabIs Tryd.prog w "strings.asciiSpace" .u8 Lib.asciiSpaceTab) (hW : Wt w) :
    Calls Tryd.prog 44 #[.string s] w fun e w' => ∃ A, e = .returned (.slice (some ⟨A, 0, none⟩) (Lib.fieldsD s.data.toList).length (Lib.fieldsD s.data.toList).length) ∧ w.heap.size ≤ A ∧
      w'.ownsRow w.heap.size 9 1 (.slice (some ⟨A, 0, none⟩) (Lib.fieldsD s.data.toList).length (Lib.fieldsD s.data.toList).length) (Lib.fieldsD s.data.toList).length ((Lib.fieldsD s.data.toList).map fun x => Value.string ⟨x.toArray⟩) ∧ Below w.heap.size w w' :=
  Any.strings_Fields_any lays157 hi9F hi154F gTab s w hs htab hW
theorem fgo_len : ∀ (f : Nat) (cur l : List UInt8), (∀ x, x ∈ Lib.fieldsGoD f cur l → x.length ≤ cur.length + l.length) ∧ (Lib.fieldsGoD f cur l).length ≤ f + 1
  | 0, cur, l => by
    unfold Lib.fieldsGoD
    split
    · simp
    · constructor
      · intro x hx
        simp only [List.mem_singleton] at hx
        subst hx; omega
      · simp
  | f + 1, cur, l => by
    unfold Lib.fieldsGoD
    split
    · split
      · simp
      · constructor
        · intro x hx
          simp only [List.mem_singleton] at hx
          subst hx; omega
        · simp
    · split
      · obtain ⟨h1, h2⟩ := fgo_len f [] (l.drop (Lib.decodeL l).2)
        constructor
        · intro x hx
          rw [List.mem_append] at hx
          rcases hx with hx | hx
          · split at hx
            · cases hx
            · simp only [List.mem_singleton] at hx
              subst hx; omega
          · have := h1 x hx
            simp only [List.length_drop, List.length_nil] at this
            omega
        · rw [List.length_append]
          split <;> simp <;> omega
      · obtain ⟨h1, h2⟩ := fgo_len f (cur ++ l.take (Lib.decodeL l).2) (l.drop (Lib.decodeL l).2)
        constructor
        · intro x hx
          have := h1 x hx
          simp only [List.length_append, List.length_take, List.length_drop] at this
          omega
        · omega
theorem fD_len (s : ByteArray) : (∀ x, x ∈ Lib.fieldsD s.data.toList → x.length ≤ s.size) ∧ (Lib.fieldsD s.data.toList).length ≤ s.size + 2 := by
  obtain ⟨h1, h2⟩ := fgo_len (s.data.toList.length + 1) [] s.data.toList
  have e : s.data.toList.length = s.size := rfl
  unfold Lib.fieldsD
  constructor
  · intro x hx
    have := h1 x hx
    simp only [List.length_nil] at this
    omega
  · omega
def fsD (s : ByteArray) : List Value := (Lib.fieldsD s.data.toList).map fun l => Value.string ⟨l.toArray⟩
def ptD (s : ByteArray) (j : Nat) : ByteArray := ⟨((Lib.fieldsD s.data.toList).getD j []).toArray⟩
theorem ptD_size (s : ByteArray) (j : Nat) : (ptD s j).size ≤ s.size := by
  have h := (fD_len s).1
  unfold ptD
  rw [List.getD_eq_getElem?_getD]
  cases hx : (Lib.fieldsD s.data.toList)[j]? with
  | none => exact Nat.zero_le _
  | some x =>
    exact h x (List.mem_of_getElem? hx)
theorem fsD_at (s : ByteArray) (j : Nat) (hj : j < 3) : (fsD s ++ [.string ⟨#[]⟩, .string ⟨#[]⟩, .string ⟨#[]⟩])[j]? = some (.string (ptD s j)) := by
  unfold fsD ptD
  generalize Lib.fieldsD s.data.toList = F
  rcases Nat.lt_or_ge j F.length with c | c
  · rw [List.getElem?_append_left (by rw [List.length_map]; exact c), List.getElem?_map, List.getElem?_eq_getElem c, List.getD_eq_getElem?_getD, List.getElem?_eq_getElem c]
    rfl
  · rw [List.getElem?_append_right (by rw [List.length_map]; exact c), List.length_map, List.getD_eq_getElem?_getD, List.getElem?_eq_none c]
    have : j - F.length < 3 := by omega
    generalize j - F.length = i at *
    rcases i with _ | _ | _ | i
    · rfl
    · rfl
    · rfl
    · omega
noncomputable def readD (s : ByteArray) : Ev := ⟨(parseF (ptD s 1) 1 9223372036854775807).1, kdF (ptD s 0) 3, (parseF (ptD s 2) 0 9223372036854775807).1⟩
set_option maxRecDepth 100000 in
set_option maxHeartbeats 4000000 in
theorem e_readD (s : ByteArray) (w : World) (hG : Gl w) (hWt : Wt w) (hs : s.size ≤ 100000) :
    Calls Tryd.prog 29 #[.string s] w fun e w' => e = .returned (.agg #[.int .i64 (readD s).a, .int .i64 (readD s).k, .int .i64 (readD s).l]) ∧ Below w.heap.size w w' := by
  obtain ⟨n, hn⟩ : ∃ n, (Lib.fieldsD s.data.toList).length = n := ⟨_, rfl⟩
  have hfl : (fsD s).length = n := by unfold fsD; rw [List.length_map, hn]
  have hps : ∀ j, j < 3 → (ptD s j).size ≤ 100000 := fun j _ => Nat.le_trans (ptD_size s j) hs
  have hF : n ≤ 100002 := by have := (fD_len s).2; omega
  have hK0 := Blk.new w 47 #[.int .i64 0, .int .i64 0, .int .i64 0]
  have hB0 : Below w.heap.size w (w.alloc (.cells #[.int .i64 0, .int .i64 0, .int .i64 0] 47)) := below_al _
  have htab : Lib.TabIs Tryd.prog (w.alloc (.cells #[.int .i64 0, .int .i64 0, .int .i64 0] 47)) "strings.asciiSpace" .u8 Lib.asciiSpaceTab := var?_below hB0 gTab hG.lt hG.tab
  obtain ⟨W1, hW1⟩ : ∃ W1, w.alloc (.cells #[.int .i64 0, .int .i64 0, .int .i64 0] 47) = W1 := ⟨_, rfl⟩
  rw [hW1] at hK0 hB0 htab
  have hwt : Wt W1 := by rw [← hW1]; exact hWt.below (below_al _)
  have hFC := sh_Fields_any s W1 (by omega) htab hwt
  rw [hn] at hFC
  have HFC := Lib.hid hFC
  have HG := Lib.hid hG
  clear hG htab hFC
  go_enter Tryd.func29, Tryd.ntmps29
  have HK0 := Lib.hid hK0
  have HB0 := Lib.hid hB0
  have HW1 := Lib.hid hW1
  clear hK0 hB0
  go_upto_region 1 with (fail)
  clear hW1
  have HZ : Hid (w.heap.size < W1.heap.size) := Lib.hid HK0.out.lt
  have hz1 : W1.heap.size = w.heap.size + 1 := by rw [← HW1.out]; simp
  have HZ1 := Lib.hid hz1
  obtain ⟨i0, hi0, hz0, hz1', hz2⟩ := info_parts info9
  have HFS : Hid (fsD s = (Lib.fieldsD s.data.toList).map fun l => Value.string ⟨l.toArray⟩) := Lib.hid rfl
  rw [← HFS.out] at HFC
  have HFC2 : Hid (Calls Tryd.prog 44 #[.string s] W1 fun e w' => ∃ A, e = .returned (.slice (some ⟨A, 0, none⟩) n n) ∧ W1.heap.size ≤ A ∧ (w'.alloc (.cells #[.string ⟨#[]⟩, .string ⟨#[]⟩, .string ⟨#[]⟩] 9)).ownsRow (w.heap.size + 1) 9 1 (.slice (some ⟨A, 0, none⟩) n n) n (fsD s) ∧
      (∀ (j : Nat) (u : Value), [Value.string ⟨#[]⟩, .string ⟨#[]⟩, .string ⟨#[]⟩][j]? = some u → (w'.alloc (.cells #[.string ⟨#[]⟩, .string ⟨#[]⟩, .string ⟨#[]⟩] 9)).cell? ((⟨w'.heap.size, 0, none⟩ : Addr).add j) = some u) ∧ Below W1.heap.size W1 (w'.alloc (.cells #[.string ⟨#[]⟩, .string ⟨#[]⟩, .string ⟨#[]⟩] 9))) := Lib.hid (HFC.out.mono (by
    rintro e w' ⟨A, he, hA, hO, hb⟩
    refine ⟨A, he, hA, ?_, fun j u h => three_cells _ _ rfl _ _ _ j u h, hb.alloc hb.size _⟩
    rw [HZ1.out] at hO
    exact own_keep hO (below_al _)))
  clear HFC hz1
  go_upto_region 2 with (first
    | (at_builtin; have _ := HO3; (refine wpList_append_own_at _ rfl (.tmp 7) (.tmp 8) 60 rfl (w.heap.size + 1) 9 i0 _ 1 16 Tryd.underlying60 hi0 hz0 hz1' hz2 rfl (by decide) _ n (fsD s) rfl HO3.out ⟨w2.heap.size, 0, none⟩ 3 3 [Value.string ⟨#[]⟩, .string ⟨#[]⟩, .string ⟨#[]⟩] rfl rfl HC3.out (by simp [Value.oneCell']) (by unfold maxLen; omega) (by omega) (by have h1 := HZ1.out; have h2 := HB3.out.size; omega) ?_); intro v5 w5 hO5 hg5 _ _; have HO5 := Lib.hid hO5; have HG5 := Lib.hid hg5; clear hO5 hg5)
    | (go_at_call 44; (with_reducible refine HFC2.out.mono ?_); rintro e w2 ⟨A2, rfl, hA2, hO3, hC3, hB3⟩; have HO3 := Lib.hid hO3; have HC3 := Lib.hid hC3; have HB3 := Lib.hid hB3; have HA2 := Lib.hid hA2; clear hA2 hO3 hC3 hB3))
  obtain ⟨W3, hW3⟩ : ∃ W3, w2.alloc (.cells #[.string ⟨#[]⟩, .string ⟨#[]⟩, .string ⟨#[]⟩] 9) = W3 := ⟨_, rfl⟩
  rw [hW3] at HO3 HC3 HB3 HG5
  clear hW3
  have hz3 : w.heap.size + 1 ≤ W3.heap.size := by have h1 := HZ1.out; have h2 := HB3.out.size; omega
  obtain ⟨g5, c5, hv5, hga, hgb⟩ := HO5.out.form (by omega)
  subst hv5
  have HW0 := Lib.hid (show Below w.heap.size w W3 from HB0.out.trans (HB3.out.mono HB0.out.size))
  have HB5 : Hid (Below w.heap.size w w5) := Lib.hid (HW0.out.grown HG5.out (by omega) (fun k e => by have h : A2 = k := Option.some.inj e; have h1 := HZ1.out; have h2 := HA2.out; omega))
  have HK5 : Hid (Blk w5 w.heap.size 47 #[.int .i64 0, .int .i64 0, .int .i64 0]) := Lib.hid (by
    have h1 : Blk W3 w.heap.size 47 #[.int .i64 0, .int .i64 0, .int .i64 0] := HK0.out.below HB3.out HK0.out.lt
    exact (HG5.out.block w.heap.size h1.lt (fun e => by have h : w.heap.size = A2 := Option.some.inj e; have h1 := HZ1.out; have h2 := HA2.out; omega)).trans h1)
  have HP5 : Hid (∀ j : Nat, j < 3 → w5.cell? ⟨g5, j, none⟩ = some (.string (ptD s j))) := Lib.hid (fun j hj => by
    rw [HO5.out.cellAt j (by omega)]
    exact fsD_at s j hj)
  obtain ⟨m, hm⟩ : ∃ m, n + 3 = m := ⟨_, rfl⟩
  rw [hm] at HO5 ⊢
  have m0 : (0 : Int) < (m : Int) := by omega
  have m1 : (1 : Int) < (m : Int) := by omega
  have m2 : (2 : Int) < (m : Int) := by omega
  have HWS : Hid (w5.rangeAt 0 0 [Value.string (wd 0), .string (wd 1), .string (wd 2)]) := Lib.hid (fun j u hj => by
    have h := HG.out.below HB5.out
    rw [Nat.zero_add]
    rcases j with _ | _ | _ | j
    · simp at hj; rw [← hj]; exact h 0 (by decide)
    · simp at hj; rw [← hj]; exact h 1 (by decide)
    · simp at hj; rw [← hj]; exact h 2 (by decide)
    · simp at hj)
  have hne : g5 ≠ w.heap.size := by omega
  clear HG5 HO5 hm hn hfl
  go_upto_region 3 with (refine wpList_load_mid rfl 57 (.global 0) rfl 0 0 rfl [Value.string (wd 0), .string (wd 1), .string (wd 2)] _ HWS.out Tryd.underlying57 rfl (by kernel_rfl) ?_)
  have hgb5 : g5 < w5.heap.size := hgb
  have HKW : Hid (∀ (p : ByteArray) k, 0 ≤ kdF p k ∧ kdF p k ≤ k) := Lib.hid kdF_le
  have HIW := Lib.hid index_words
  obtain ⟨P0, hP0⟩ : ∃ P0, ptD s 0 = P0 := ⟨_, rfl⟩
  have hix0 := fun k hk => index_words k hk
  obtain ⟨Z, hZZ⟩ : ∃ Z, [Value.string (wd 0), Value.string (wd 1), Value.string (wd 2)].toArray = Z := ⟨_, rfl⟩
  rw [hZZ] at hix0 ⊢
  have HIX := Lib.hid hix0
  clear hix0 hZZ
  go_loopw [11] (fun i wr => ∃ k : Nat, k ≤ 3 ∧ i = .int .i64 (k : Int) ∧ Hid (Blk wr w.heap.size 47 #[.int .i64 0, .int .i64 (kdF P0 k), .int .i64 0]) ∧ Hid (∀ j : Nat, j < 3 → wr.cell? ⟨g5, j, none⟩ = some (.string (ptD s j))) ∧ Hid (Below w.heap.size w wr) ∧ Hid (g5 < wr.heap.size)) (fun i _ => 3 - (intOf i).toNat)
  case atStart => exact ⟨0, by omega, rfl, HK5, HP5, HB5, Lib.hid hgb5⟩
  case round =>
    obtain ⟨k, hk, rfl, HK, HP, HB, HGZ⟩ := hrel
    by_cases hlt : k < 3
    · have l1 : (k : Int) < 3 := by omega
      have hi := HIX.out k hlt
      have y0 : wr.cell? ⟨g5, 0, none⟩ = some (.string P0) := by rw [← hP0]; exact HP.out 0 (by decide)
      have z0 := HK.out.lt
      have z1 := HK.out.frozen 1
      have z2 : wr.cell? ⟨w.heap.size, 1, none⟩ = some (.int .i64 (kdF P0 k)) := HK.out.cell 1
      have wk : IntKind.i64.wrap ((k : Int) + 1) = (k : Int) + 1 := by rw [IntKind.wrap_i64]; omega
      obtain ⟨y, hy⟩ : ∃ y, wd k = y := ⟨_, rfl⟩
      rw [hy] at hi
      obtain ⟨b, hb⟩ : ∃ b, (y.toList == P0.toList) = b := ⟨_, rfl⟩
      cases b
      · have HE : Hid (kdF P0 (k + 1) = kdF P0 k) := Lib.hid (by rw [kdF, if_neg (by unfold eqS; rw [hy, hb]; decide)])
        clear hy hP0
        go_wp2
        go_roundw
        case rel => exact ⟨k + 1, by omega, by go_num, by rw [HE.out]; exact HK, HP, HB, HGZ⟩
        case measure => simp [intOf]; omega
      · have HE : Hid (kdF P0 (k + 1) = (k : Int) + 1) := Lib.hid (by rw [kdF, if_pos (by unfold eqS; rw [hy, hb])])
        have HN1 : Hid (Blk (wr.setCell ⟨w.heap.size, 1, none⟩ (.int .i64 ((k : Int) + 1))) w.heap.size 47 #[.int .i64 0, .int .i64 ((k : Int) + 1), .int .i64 0]) := Lib.hid (HK.out.set_ 1 _)
        have HN2 : Hid (∀ j : Nat, j < 3 → (wr.setCell ⟨w.heap.size, 1, none⟩ (.int .i64 ((k : Int) + 1))).cell? ⟨g5, j, none⟩ = some (.string (ptD s j))) := Lib.hid (fun j hj => (World.cell?_of_block (Below.heap_setCell wr _ _ _ (by show g5 ≠ w.heap.size; exact hne))).trans (HP.out j hj))
        have HN3 := Lib.hid (HB.out.setCell (p := ⟨w.heap.size, 1, none⟩) (Nat.le_refl _) (.int .i64 ((k : Int) + 1)))
        have HN4 : Hid (g5 < (wr.setCell ⟨w.heap.size, 1, none⟩ (.int .i64 ((k : Int) + 1))).heap.size) := Lib.hid (by rw [World.size_setCell]; exact HGZ.out)
        clear hy hP0
        go_wp2
        go_roundw
        case rel => exact ⟨k + 1, by omega, by go_num, by rw [HE.out]; exact HN1, HN2, HN3, HN4⟩
        case measure => simp [intOf]; omega
    · obtain rfl : k = 3 := by omega
      have l1 : ¬ ((3 : Nat) : Int) < 3 := by omega
      obtain ⟨P1, hP1⟩ : ∃ P1, ptD s 1 = P1 := ⟨_, rfl⟩
      obtain ⟨P2, hP2⟩ : ∃ P2, ptD s 2 = P2 := ⟨_, rfl⟩
      have y1 : wr.cell? ⟨g5, 1, none⟩ = some (.string P1) := by rw [← hP1]; exact HP.out 1 (by decide)
      have y2 : wr.cell? ⟨g5, 2, none⟩ = some (.string P2) := by rw [← hP2]; exact HP.out 2 (by decide)
      have s1 := hps 1 (by decide)
      have s2 := hps 2 (by decide)
      have HPA : Hid (∀ wx, Calls Tryd.prog 45 #[.string P1, .int .i64 1, .int .i64 9223372036854775807] wx fun r w' => r = .returned (.tuple #[.int .i64 (parseF P1 1 9223372036854775807).1, .int .i64 (parseF P1 1 9223372036854775807).2]) ∧ wx = w') := Lib.hid (fun wx => num_Parse P1 1 9223372036854775807 wx (by rw [← hP1]; omega) (by decide) (by decide) (by decide) (by decide))
      have HPB : Hid (∀ wx, Calls Tryd.prog 45 #[.string P2, .int .i64 0, .int .i64 9223372036854775807] wx fun r w' => r = .returned (.tuple #[.int .i64 (parseF P2 0 9223372036854775807).1, .int .i64 (parseF P2 0 9223372036854775807).2]) ∧ wx = w') := Lib.hid (fun wx => num_Parse P2 0 9223372036854775807 wx (by rw [← hP2]; omega) (by decide) (by decide) (by decide) (by decide))
      have HRE : Hid (readD s = ⟨(parseF P1 1 9223372036854775807).1, kdF P0 3, (parseF P2 0 9223372036854775807).1⟩) := Lib.hid (by unfold readD; rw [hP0, hP1, hP2])
      obtain ⟨a1, ha1⟩ : ∃ a1, (parseF P1 1 9223372036854775807).1 = a1 := ⟨_, rfl⟩
      obtain ⟨a2, ha2⟩ : ∃ a2, (parseF P1 1 9223372036854775807).2 = a2 := ⟨_, rfl⟩
      obtain ⟨a3, ha3⟩ : ∃ a3, (parseF P2 0 9223372036854775807).1 = a3 := ⟨_, rfl⟩
      obtain ⟨a4, ha4⟩ : ∃ a4, (parseF P2 0 9223372036854775807).2 = a4 := ⟨_, rfl⟩
      obtain ⟨kd, hkd⟩ : ∃ kd, kdF P0 3 = kd := ⟨_, rfl⟩
      rw [ha1, ha2] at HPA
      rw [ha3, ha4] at HPB
      rw [ha1, ha3, hkd] at HRE
      rw [hkd] at HK
      clear ha1 ha2 ha3 ha4 hkd hP0 hP1 hP2 s1 s2
      have z0 := HK.out.lt
      have z1 := HK.out.frozen 0
      have z2 := HK.out.frozen 1
      have z3 := HK.out.frozen 2
      have z4 : wr.cell? ⟨w.heap.size, 0, none⟩ = some (.int .i64 0) := HK.out.cell 0
      have z5 : wr.cell? ⟨w.heap.size, 1, none⟩ = some (.int .i64 kd) := HK.out.cell 1
      have z6 : wr.cell? ⟨w.heap.size, 2, none⟩ = some (.int .i64 0) := HK.out.cell 2
      have z7 := HGZ.out
      go_upto_region 10 with (go_at_call 45; (with_reducible first | refine (HPA.out _).mono ?_ | refine (HPB.out _).mono ?_); rintro e w9 ⟨rfl, rfl⟩)
      obtain ⟨V, hV⟩ : ∃ V, (wr.setCell ⟨w.heap.size, 0, none⟩ (.int .i64 a1)).setCell ⟨w.heap.size, 2, none⟩ (.int .i64 a3) = V := ⟨_, rfl⟩
      have HKV : Hid (Blk V w.heap.size 47 #[.int .i64 a1, .int .i64 kd, .int .i64 a3]) := Lib.hid (by rw [← hV]; exact (HK.out.set_ 0 _).set_ 2 _)
      have HBV : Hid (Below w.heap.size w V) := Lib.hid (by rw [← hV]; exact (HB.out.setCell (p := ⟨w.heap.size, 0, none⟩) (Nat.le_refl _) _).setCell (p := ⟨w.heap.size, 2, none⟩) (Nat.le_refl _) _)
      rw [hV]
      clear hV z0 z1 z2 z3 z4 z5 z6 z7 y1 y2
      have z0 := HKV.out.lt
      have z1 := HKV.out.frozen 0
      have z2 := HKV.out.frozen 1
      have z3 := HKV.out.frozen 2
      have z4 : V.cell? ⟨w.heap.size, 0, none⟩ = some (.int .i64 a1) := HKV.out.cell 0
      have z5 : V.cell? ⟨w.heap.size, 1, none⟩ = some (.int .i64 kd) := HKV.out.cell 1
      have z6 : V.cell? ⟨w.heap.size, 2, none⟩ = some (.int .i64 a3) := HKV.out.cell 2
      go_wp2
      refine bodyPost_ret (res_47 rfl _ _ w.heap.size _ _ _ rfl (((HKV.out.set_ 0 _).set_ 1 _).set_ 2 _)) rfl ⟨by rw [HRE.out], ?_⟩
      exact ((HBV.out.setCell (p := ⟨w.heap.size, 0, none⟩) (Nat.le_refl _) _).setCell (p := ⟨w.heap.size, 1, none⟩) (Nat.le_refl _) _).setCell (p := ⟨w.heap.size, 2, none⟩) (Nat.le_refl _) _
end Go.Proofs.YtfppplalgdopjaaDoor
