/- The next token; contract of Next of layer 29 (lexi), over the translation. -/
import Derived.Test.YtnmofkngengoeaaDoorFn5
import Derived.Deep.Cut
namespace Go.Proofs.YtnmofkngengoeaaDoor
open Go.RowKit Go.PlainAid

inductive Rs where
  | ok (k n : Int) (x : ByteArray) (a nx : Nat)
  | er (a : Nat) (c : Int)
def sgnR (s : ByteArray) (m : Nat) : Rs := match sgnS s m with
  | some k => .ok 4 0 (signs.getD k ByteArray.empty) m (m + (signs.getD k ByteArray.empty).size)
  | none => .er m 15
def nextS (s : ByteArray) (i : Nat) : Rs :=
  if s.size ≤ blankS s i then .ok 5 0 emp (blankS s i) (blankS s i)
  else if letQ (bt s (blankS s i)) then
    if wordQ (s.extract (blankS s i) (span namQ s (blankS s i))) then .ok 3 0 (s.extract (blankS s i) (span namQ s (blankS s i))) (blankS s i) (span namQ s (blankS s i))
    else if 24 < span namQ s (blankS s i) - blankS s i then .er (blankS s i) 4
    else .ok 2 0 (s.extract (blankS s i) (span namQ s (blankS s i))) (blankS s i) (span namQ s (blankS s i))
  else if digQ (bt s (blankS s i)) then
    if 1 < span digQ s (blankS s i) - blankS s i ∧ bt s (blankS s i) = 48 then .er (blankS s i) 15
    else if 255 < valS (s.extract (blankS s i) (span digQ s (blankS s i))) then .er (blankS s i) 2
    else .ok 1 (valS (s.extract (blankS s i) (span digQ s (blankS s i)))) (s.extract (blankS s i) (span digQ s (blankS s i))) (blankS s i) (span digQ s (blankS s i))
  else sgnR s (blankS s i)
def resV : Rs → Value
  | .ok k n x a nx => .tuple #[tokV k n x (a : Int), .int .i64 (nx : Int), .int .i64 0]
  | .er a c => .tuple #[tokV 0 0 emp 0, .int .i64 (a : Int), .int .i64 c]
theorem words_short : ∀ y ∈ words, y.size ≤ 5 := by decide +kernel
theorem signs_short : ∀ y ∈ signs, y.size ≤ 5 := by decide +kernel
theorem wordQ_short {x : ByteArray} (h : wordQ x = true) : x.size ≤ 5 := by
  unfold wordQ at h
  rw [List.any_eq_true] at h
  obtain ⟨y, hy, he⟩ := h
  have h1 := words_short y hy
  unfold eqB at he
  have h2 : x.toList = y.toList := by simpa using he
  have h3 := congrArg List.length h2
  rw [ByteArray.toList_eq, ByteArray.toList_eq] at h3
  have h4 : x.size = y.size := h3
  omega
def Blk (w : World) (g : Nat) (t : TypeId) (cs : Array Value) : Prop := w.heap[g]? = some (.cells cs t (0, 0))
section
variable {w w' : World} {g : Nat} {t : TypeId} {cs : Array Value}
theorem Blk.lt (h : Blk w g t cs) : g < w.heap.size := by
  rcases Nat.lt_or_ge g w.heap.size with hlt | hge
  · exact hlt
  · unfold Blk at h; rw [Array.getElem?_eq_none hge] at h; cases h
theorem Blk.cell (h : Blk w g t cs) (i : Nat) : w.cell? ⟨g, i, none⟩ = cs[i]? := cell_of_row w g i cs t (0, 0) h
theorem Blk.frozen (h : Blk w g t cs) (i : Nat) : w.frozen? ⟨g, i, none⟩ = false := by
  unfold Blk at h
  simp [World.frozen?, h]
theorem Blk.new (w : World) (t : TypeId) (cs : Array Value) : Blk (w.alloc (.cells cs t)) w.heap.size t cs := heap_alloc_new w _
theorem Blk.set_ (h : Blk w g t cs) (i : Nat) (u : Value) : Blk (w.setCell ⟨g, i, none⟩ u) g t (cs.setIfInBounds i u) := by
  unfold Blk at h ⊢
  simp [World.setCell, Array.getElem?_modify, h]
theorem Blk.below {B : Nat} (h : Blk w g t cs) (hb : Below B w w') (hg : g < B) : Blk w' g t cs := (hb.block g hg).trans h
end
theorem Blk.tok {w : World} {g : Nat} {a b c d a' b' c' d' : Value} (h : Blk w g 24 #[a, b, c, d]) : Blk ((((w.setCell ⟨g, 0, none⟩ a').setCell ⟨g, 1, none⟩ b').setCell ⟨g, 2, none⟩ c').setCell ⟨g, 3, none⟩ d') g 24 #[a', b', c', d'] :=
  (((h.set_ 0 a').set_ 1 b').set_ 2 c').set_ 3 d'
theorem below_tok {B : Nat} {w0 w : World} {g : Nat} {a' b' c' d' : Value} (h : Below B w0 w) (hg : B ≤ g) : Below B w0 ((((w.setCell ⟨g, 0, none⟩ a').setCell ⟨g, 1, none⟩ b').setCell ⟨g, 2, none⟩ c').setCell ⟨g, 3, none⟩ d') :=
  (((h.setCell (p := ⟨g, 0, none⟩) hg _).setCell (p := ⟨g, 1, none⟩) hg _).setCell (p := ⟨g, 2, none⟩) hg _).setCell (p := ⟨g, 3, none⟩) hg _
theorem Blk.four {w : World} {g : Nat} {t : TypeId} {a b c d : Value} (h : Blk w g t #[a, b, c, d]) : (w.cell? ⟨g, 0, none⟩ = some a ∧ w.cell? ⟨g, 1, none⟩ = some b ∧ w.cell? ⟨g, 2, none⟩ = some c ∧ w.cell? ⟨g, 3, none⟩ = some d) ∧
    w.frozen? ⟨g, 0, none⟩ = false ∧ w.frozen? ⟨g, 1, none⟩ = false ∧ w.frozen? ⟨g, 2, none⟩ = false ∧ w.frozen? ⟨g, 3, none⟩ = false :=
  ⟨⟨h.cell 0, h.cell 1, h.cell 2, h.cell 3⟩, h.frozen 0, h.frozen 1, h.frozen 2, h.frozen 3⟩
theorem dig_not_let {c : Int} (h : digQ c = true) : letQ c = false := by
  unfold digQ at h
  simp at h
  unfold letQ
  simp
  omega
theorem out_next (s : ByteArray) (i : Int) (w : World) (h : i < 0 ∨ (s.size : Int) < i) : Calls Tryd.prog 9 #[.string s, .int .i64 i] w fun en w' => en = .returned (.tuple #[tokV 0 0 emp 0, .int .i64 0, .int .i64 2]) ∧ Below w.heap.size w w' := by
  by_cases h1 : i < 0
  · go_enter Tryd.func9, Tryd.ntmps9
    go_wp2
    go_returns
    exact ⟨rfl, by first | exact (Below.refl _ _).alloc (Nat.le_refl _) _ | go_grown⟩
  · have h2 : (s.size : Int) < i := by omega
    go_enter Tryd.func9, Tryd.ntmps9
    go_wp2
    go_returns
    exact ⟨rfl, by first | exact (Below.refl _ _).alloc (Nat.le_refl _) _ | go_grown⟩
set_option maxRecDepth 100000 in
set_option maxHeartbeats 4000000 in
theorem lx_Next_core (s : ByteArray) (i m : Nat) (w : World) (hs : s.size ≤ 4000000000000000000) (hi : i ≤ s.size) (hm : blankS s i = m) (hml : m < s.size) (d l : Bool) (hd : digQ (bt s m) = d) (hl : letQ (bt s m) = l) (hdl : d = true → l = false)
    (k n : Int) (x : ByteArray) (c : Int) (hx : x.size ≤ 4000000000000000000) (f : Nat) (hf : f = if d then 25 else if l then 27 else 28)
    (hcall : ∀ w1, w1 = w.alloc (.cells #[.int .i64 0, .int .i64 0, .string { data := #[] }, .int .i64 0] 24) → Calls Tryd.prog f #[.string (s.extract m s.size)] w1 fun en w' => en = .returned (.tuple #[tokV k n x 0, .int .i64 c]) ∧ Below w1.heap.size w1 w') :
    Calls Tryd.prog 9 #[.string s, .int .i64 (i : Int)] w fun en w' => en = .returned (if c = 0 then resV (.ok k n x m (m + x.size)) else resV (.er m c)) ∧ Below w.heap.size w w' := by
  obtain ⟨ans, hans⟩ : ∃ a, (if c = 0 then resV (.ok k n x m (m + x.size)) else resV (.er m c)) = a := ⟨_, rfl⟩
  rw [hans]
  have HANS := Lib.hid hans
  have HSK := Lib.hid (fun w => lx_skip s i w (by omega) hi)
  rw [hm] at HSK
  have hi0 : ¬ (i : Int) < 0 := by omega
  have hi1 : ¬ (s.size : Int) < (i : Int) := by omega
  obtain ⟨w1, hw1⟩ : ∃ w1, w1 = w.alloc (.cells #[.int .i64 0, .int .i64 0, .string { data := #[] }, .int .i64 0] 24) := ⟨_, rfl⟩
  have hB1 : Blk w1 w.heap.size 24 #[.int .i64 0, .int .i64 0, .string { data := #[] }, .int .i64 0] := by rw [hw1]; exact Blk.new _ _ _
  have hb1 : Below w.heap.size w w1 := by rw [hw1]; exact (Below.refl _ _).alloc (Nat.le_refl _) _
  have HCALL := Lib.hid (hcall w1 hw1)
  have HB1 := Lib.hid hB1
  have HBW := Lib.hid hb1
  have hbt : bt (s.extract m s.size) 0 = bt s m := by rw [bt_cut (by omega), Nat.add_zero]
  have hgb := get_bt (s.extract m s.size)
  have HDG := Lib.hid (fun w => lx_isDigit (bt s m) w)
  have HLT := Lib.hid (fun w => lx_isLetter (bt s m) w)
  have hsl : ∀ w, (Instr.slice 9 (.string s) (some (.int .i64 (m : Int))) none none).run Tryd.prog w = .ok (.string (s.extract m s.size)) w := fun w => by
    have h := run_slice_string_from_if (P := Tryd.prog) (w := w) 9 s .i64 (m : Int) Tryd.underlying9
    rw [h, if_pos (by omega)]; rfl
  have hne : (s.extract m s.size).toList.isEmpty = false := by
    cases h : (s.extract m s.size).toList with
    | nil =>
      have h2 := congrArg List.length h
      rw [ByteArray.toList_eq] at h2
      have h3 : (s.extract m s.size).size = 0 := h2
      rw [cut_size] at h3; omega
    | cons _ _ => rfl
  have hne1 : ¬ (s.extract m s.size).toList = [] := fun h => by rw [h] at hne; cases hne
  have hsz0 : 0 < (s.extract m s.size).size := by rw [cut_size]; omega
  generalize s.extract m s.size = rest at *
  rw [hd] at HDG
  rw [hl] at HLT
  have HW1 := Lib.hid hw1
  clear hw1
  clear hd hl hm hcall hB1 hb1 hans
  by_cases hc : c = 0
  · have hcz : (c == 0) = true := by simp [hc]
    have HX : Hid (ans = resV (.ok k n x m (m + x.size))) := Lib.hid (by rw [← HANS.out, if_pos hc])
    subst hc
    have h3 : (d = true ∧ l = false) ∨ (d = false ∧ l = true) ∨ (d = false ∧ l = false) := by
      cases d
      · cases l
        · exact .inr (.inr ⟨rfl, rfl⟩)
        · exact .inr (.inl ⟨rfl, rfl⟩)
      · exact .inl ⟨rfl, hdl rfl⟩
    clear hdl
    rcases h3 with ⟨rfl, rfl⟩ | ⟨rfl, rfl⟩ | ⟨rfl, rfl⟩
    all_goals
      have HCALL2 : Hid (Calls Tryd.prog f #[.string rest] w1 fun en w' => en = .returned (.tuple #[.agg #[.int .i64 k, .int .i64 n, .string x, .int .i64 0], .int .i64 0]) ∧ Below w1.heap.size w1 w') := HCALL
      simp only [if_true, if_false, Bool.false_eq_true] at hf
      subst hf
      go_enter Tryd.func9, Tryd.ntmps9
      go_upto_region 3 with (fail)
      go_upto_region 4 with (go_at_call 23; refine (HSK.out _).mono ?_; rintro e w9 ⟨rfl, rfl⟩)
      go_upto_region 6 with (fail)
      go_upto_region 8 with (fail)
      go_upto_region 12 with (first
        | (go_at_call 24; refine (HDG.out _).mono ?_; rintro e w9 ⟨rfl, rfl⟩)
        | (go_at_call 26; refine (HLT.out _).mono ?_; rintro e w9 ⟨rfl, rfl⟩)
        | ((first | go_at_call 25 | go_at_call 27 | go_at_call 28); rw [← HW1.out]; refine HCALL.out.mono ?_; rintro e w2 ⟨rfl, hb2⟩; have HB2 := Lib.hid hb2; have hK := HB1.out.below hb2 HB1.out.lt; obtain ⟨⟨c0, c1, c2, c3⟩, f0, f1, f2, f3⟩ := hK.four; have HK2 := Lib.hid hK; clear hK hb2; simp only [tokV]))
      have hb2 : Below w.heap.size w w2 := HBW.out.trans (HB2.out.mono HBW.out.size)
      obtain ⟨w3, hw3⟩ : ∃ w3, w3 = (((w2.setCell ⟨w.heap.size, 0, none⟩ (.int .i64 k)).setCell ⟨w.heap.size, 1, none⟩ (.int .i64 n)).setCell ⟨w.heap.size, 2, none⟩ (.string x)).setCell ⟨w.heap.size, 3, none⟩ (.int .i64 0) := ⟨_, rfl⟩
      rw [← hw3]
      have HK3 : Hid (Blk w3 w.heap.size 24 #[.int .i64 k, .int .i64 n, .string x, .int .i64 0]) := Lib.hid (by rw [hw3]; exact HK2.out.tok)
      have HB3 : Hid (Below w.heap.size w w3) := Lib.hid (by rw [hw3]; exact below_tok hb2 (Nat.le_refl _))
      clear c0 c1 c2 c3 f0 f1 f2 f3 hw3 hb2
      obtain ⟨⟨c0, c1, c2, c3⟩, f0, f1, f2, f3⟩ := HK3.out.four
      go_upto_region 14 with (fail)
      go_upto_region 15 with (fail)
      obtain ⟨w4, hw4⟩ : ∃ w4, w4 = w3.setCell ⟨w.heap.size, 3, none⟩ (.int .i64 (m : Int)) := ⟨_, rfl⟩
      rw [← hw4]
      have HK4 : Hid (Blk w4 w.heap.size 24 #[.int .i64 k, .int .i64 n, .string x, .int .i64 (m : Int)]) := Lib.hid (by rw [hw4]; exact HK3.out.set_ 3 _)
      have HB4 : Hid (Below w.heap.size w w4) := Lib.hid (by rw [hw4]; exact HB3.out.setCell (p := ⟨w.heap.size, 3, none⟩) (Nat.le_refl _) _)
      clear c0 c1 c2 c3 f0 f1 f2 f3 hw4
      obtain ⟨⟨c0, c1, c2, c3⟩, f0, f1, f2, f3⟩ := HK4.out.four
      go_wp2_with fail
      obtain ⟨w5, hw5⟩ : ∃ w5, w5 = (((w4.setCell ⟨w.heap.size, 0, none⟩ (.int .i64 k)).setCell ⟨w.heap.size, 1, none⟩ (.int .i64 n)).setCell ⟨w.heap.size, 2, none⟩ (.string x)).setCell ⟨w.heap.size, 3, none⟩ (.int .i64 (m : Int)) := ⟨_, rfl⟩
      rw [← hw5]
      have HK5 : Hid (Blk w5 w.heap.size 24 #[.int .i64 k, .int .i64 n, .string x, .int .i64 (m : Int)]) := Lib.hid (by rw [hw5]; exact HK4.out.tok)
      have HB5 : Hid (Below w.heap.size w w5) := Lib.hid (by rw [hw5]; exact below_tok HB4.out (Nat.le_refl _))
      clear c0 c1 c2 c3 f0 f1 f2 f3 hw5
      obtain ⟨⟨c0, c1, c2, c3⟩, f0, f1, f2, f3⟩ := HK5.out.four
      refine bodyPost_ret (v := Value.tuple #[.agg #[.int .i64 k, .int .i64 n, .string x, .int .i64 (m : Int)], .int .i64 ((m : Int) + (x.size : Int)), .int .i64 0]) (by simp [results, Tryd.results9, go_sem, c0, c1, c2, c3]) rfl ⟨?_, HB5.out⟩
      rw [HX.out]; rfl
  · have hcz : (c == 0) = false := by simp [hc]
    have HX : Hid (ans = resV (.er m c)) := Lib.hid (by rw [← HANS.out, if_neg hc])
    have h3 : (d = true ∧ l = false) ∨ (d = false ∧ l = true) ∨ (d = false ∧ l = false) := by
      cases d
      · cases l
        · exact .inr (.inr ⟨rfl, rfl⟩)
        · exact .inr (.inl ⟨rfl, rfl⟩)
      · exact .inl ⟨rfl, hdl rfl⟩
    clear hdl
    rcases h3 with ⟨rfl, rfl⟩ | ⟨rfl, rfl⟩ | ⟨rfl, rfl⟩
    all_goals
      have HCALL2 : Hid (Calls Tryd.prog f #[.string rest] w1 fun en w' => en = .returned (.tuple #[.agg #[.int .i64 k, .int .i64 n, .string x, .int .i64 0], .int .i64 c]) ∧ Below w1.heap.size w1 w') := HCALL
      simp only [if_true, if_false, Bool.false_eq_true] at hf
      subst hf
      go_enter Tryd.func9, Tryd.ntmps9
      go_upto_region 3 with (fail)
      go_upto_region 4 with (go_at_call 23; refine (HSK.out _).mono ?_; rintro e w9 ⟨rfl, rfl⟩)
      go_upto_region 6 with (fail)
      go_upto_region 8 with (fail)
      go_upto_region 12 with (first
        | (go_at_call 24; refine (HDG.out _).mono ?_; rintro e w9 ⟨rfl, rfl⟩)
        | (go_at_call 26; refine (HLT.out _).mono ?_; rintro e w9 ⟨rfl, rfl⟩)
        | ((first | go_at_call 25 | go_at_call 27 | go_at_call 28); rw [← HW1.out]; refine HCALL.out.mono ?_; rintro e w2 ⟨rfl, hb2⟩; have HB2 := Lib.hid hb2; have hK := HB1.out.below hb2 HB1.out.lt; obtain ⟨⟨c0, c1, c2, c3⟩, f0, f1, f2, f3⟩ := hK.four; have HK2 := Lib.hid hK; clear hK hb2; simp only [tokV]))
      have hb2 : Below w.heap.size w w2 := HBW.out.trans (HB2.out.mono HBW.out.size)
      obtain ⟨w3, hw3⟩ : ∃ w3, w3 = (((w2.setCell ⟨w.heap.size, 0, none⟩ (.int .i64 k)).setCell ⟨w.heap.size, 1, none⟩ (.int .i64 n)).setCell ⟨w.heap.size, 2, none⟩ (.string x)).setCell ⟨w.heap.size, 3, none⟩ (.int .i64 0) := ⟨_, rfl⟩
      rw [← hw3]
      have HK3 : Hid (Blk w3 w.heap.size 24 #[.int .i64 k, .int .i64 n, .string x, .int .i64 0]) := Lib.hid (by rw [hw3]; exact HK2.out.tok)
      have HB3 : Hid (Below w.heap.size w w3) := Lib.hid (by rw [hw3]; exact below_tok hb2 (Nat.le_refl _))
      clear c0 c1 c2 c3 f0 f1 f2 f3 hw3 hb2
      obtain ⟨⟨c0, c1, c2, c3⟩, f0, f1, f2, f3⟩ := HK3.out.four
      go_wp2_with fail
      obtain ⟨w5, hw5⟩ : ∃ w5, w5 = (((w3.setCell ⟨w.heap.size, 0, none⟩ (.int .i64 0)).setCell ⟨w.heap.size, 1, none⟩ (.int .i64 0)).setCell ⟨w.heap.size, 2, none⟩ (.string { data := #[] })).setCell ⟨w.heap.size, 3, none⟩ (.int .i64 0) := ⟨_, rfl⟩
      rw [← hw5]
      have HK5 : Hid (Blk w5 w.heap.size 24 #[.int .i64 0, .int .i64 0, .string { data := #[] }, .int .i64 0]) := Lib.hid (by rw [hw5]; exact HK3.out.tok)
      have HB5 : Hid (Below w.heap.size w w5) := Lib.hid (by rw [hw5]; exact below_tok HB3.out (Nat.le_refl _))
      clear c0 c1 c2 c3 f0 f1 f2 f3 hw5
      obtain ⟨⟨c0, c1, c2, c3⟩, f0, f1, f2, f3⟩ := HK5.out.four
      refine bodyPost_ret (v := Value.tuple #[.agg #[.int .i64 0, .int .i64 0, .string { data := #[] }, .int .i64 0], .int .i64 (m : Int), .int .i64 c]) (by simp [results, Tryd.results9, go_sem, c0, c1, c2, c3]) rfl ⟨?_, HB5.out⟩
      rw [HX.out]; rfl
set_option maxRecDepth 100000 in
set_option maxHeartbeats 4000000 in
theorem lx_Next (s : ByteArray) (i : Nat) (w : World) (hG : Glob w) (hs : s.size ≤ 4000000000000000000) (hi : i ≤ s.size) :
    Calls Tryd.prog 9 #[.string s, .int .i64 (i : Int)] w fun en w' => en = .returned (resV (nextS s i)) ∧ Below w.heap.size w w' := by
  have hbl := blank_le (s := s) (s.size - i) i (by omega)
  obtain ⟨m, hmm⟩ : ∃ m, blankS s i = m := ⟨_, rfl⟩
  have hG2 : ∀ w1, w1 = w.alloc (.cells #[.int .i64 0, .int .i64 0, .string { data := #[] }, .int .i64 0] 24) → Glob w1 := fun w1 h => by rw [h]; exact hG.step ((Below.refl _ w).alloc (Nat.le_refl _) _)
  unfold nextS
  rw [hmm] at hbl ⊢
  by_cases hend : s.size ≤ m
  · rw [if_pos hend]
    have HSK := Lib.hid (fun w => lx_skip s i w (by omega) hi)
    rw [hmm] at HSK
    have hem : m = s.size := by omega
    have hsl : ∀ w, (Instr.slice 9 (.string s) (some (.int .i64 (m : Int))) none none).run Tryd.prog w = .ok (.string (s.extract m s.size)) w := fun w => by
      have h := run_slice_string_from_if (P := Tryd.prog) (w := w) 9 s .i64 (m : Int) Tryd.underlying9
      rw [h, if_pos (by omega)]; rfl
    have hnil : (s.extract m s.size).toList = [] := List.eq_nil_of_length_eq_zero (by
      rw [ByteArray.toList_eq]; have := cut_size (s := s) (j := m); show (s.extract m s.size).size = 0; omega)
    have hnil2 : (s.extract m s.size).toList.isEmpty = true := by rw [hnil]; rfl
    have hi0 : ¬ (i : Int) < 0 := by omega
    have hi1 : ¬ (s.size : Int) < (i : Int) := by omega
    generalize s.extract m s.size = rest at *
    clear hG hG2 hbl hmm
    go_enter Tryd.func9, Tryd.ntmps9
    go_wp2_with (go_at_call 23; refine (HSK.out _).mono ?_; rintro e w9 ⟨rfl, rfl⟩)
    go_returns
    refine ⟨?_, by first | exact (Below.refl _ _).alloc (Nat.le_refl _) _ | go_grown⟩
    rw [← hem]; rfl
  · rw [if_neg hend]
    have hml : m < s.size := by omega
    cases hlet : letQ (bt s m) with
    | true =>
      rw [if_pos rfl]
      have hdg : digQ (bt s m) = false := by
        cases h : digQ (bt s m) with
        | false => rfl
        | true => rw [dig_not_let h] at hlet; cases hlet
      obtain ⟨e, he⟩ : ∃ e, span namQ s m = e := ⟨_, rfl⟩
      rw [he]
      have h1 : m ≤ e := by rw [← he]; exact span_ge _ _ _
      have h2 : e ≤ s.size := by rw [← he]; exact span_le (by omega)
      have hps := part_size (m := m) h2
      cases hw : wordQ (s.extract m e) with
      | true =>
        have hsh := wordQ_short hw
        have h := lx_Next_core s i m w hs hi hmm hml false true hdg hlet (fun h => by cases h) 3 0 (s.extract m e) 0 (by omega) 27 rfl (fun w1 hw1 => by
          have hn := lx_name s m e w1 (hG2 w1 hw1) hs (by omega) he
          rw [if_neg (by omega), if_pos hw] at hn
          exact hn)
        rw [if_pos rfl, hps, show m + (e - m) = e by omega] at h
        exact h
      | false =>
        rw [if_neg (by decide)]
        by_cases hl : 24 < e - m
        · rw [if_pos hl]
          have h := lx_Next_core s i m w hs hi hmm hml false true hdg hlet (fun h => by cases h) 0 0 emp 4 (by decide) 27 rfl (fun w1 hw1 => by
            have hn := lx_name s m e w1 (hG2 w1 hw1) hs (by omega) he
            rw [if_pos hl] at hn
            exact hn)
          rw [if_neg (by decide)] at h
          exact h
        · rw [if_neg hl]
          have h := lx_Next_core s i m w hs hi hmm hml false true hdg hlet (fun h => by cases h) 2 0 (s.extract m e) 0 (by omega) 27 rfl (fun w1 hw1 => by
            have hn := lx_name s m e w1 (hG2 w1 hw1) hs (by omega) he
            rw [if_neg hl, hw, if_neg (by decide)] at hn
            exact hn)
          rw [if_pos rfl, hps, show m + (e - m) = e by omega] at h
          exact h
    | false =>
      rw [if_neg (by decide)]
      cases hdg : digQ (bt s m) with
      | true =>
        rw [if_pos rfl]
        obtain ⟨e, he⟩ : ∃ e, span digQ s m = e := ⟨_, rfl⟩
        rw [he]
        have h1 : m < e := by rw [← he, span_step hml hdg]; have := span_ge digQ s (m + 1); omega
        have h2 : e ≤ s.size := by rw [← he]; exact span_le (by omega)
        have hps := part_size (m := m) h2
        by_cases c1 : 1 < e - m ∧ bt s m = 48
        · rw [if_pos c1]
          have h := lx_Next_core s i m w hs hi hmm hml true false hdg hlet (fun _ => rfl) 0 0 emp 15 (by decide) 25 rfl (fun w1 hw1 => by
            have hn := lx_number s m e w1 hs (by omega) he h1
            rw [if_pos c1] at hn
            exact hn)
          rw [if_neg (by decide)] at h
          exact h
        · rw [if_neg c1]
          by_cases c2 : 255 < valS (s.extract m e)
          · rw [if_pos c2]
            have h := lx_Next_core s i m w hs hi hmm hml true false hdg hlet (fun _ => rfl) 0 0 emp 2 (by decide) 25 rfl (fun w1 hw1 => by
              have hn := lx_number s m e w1 hs (by omega) he h1
              rw [if_neg c1, if_pos c2] at hn
              exact hn)
            rw [if_neg (by decide)] at h
            exact h
          · rw [if_neg c2]
            have h := lx_Next_core s i m w hs hi hmm hml true false hdg hlet (fun _ => rfl) 1 (valS (s.extract m e)) (s.extract m e) 0 (by omega) 25 rfl (fun w1 hw1 => by
              have hn := lx_number s m e w1 hs (by omega) he h1
              rw [if_neg c1, if_neg c2] at hn
              exact hn)
            rw [if_pos rfl, hps, show m + (e - m) = e by omega] at h
            exact h
      | false =>
        rw [if_neg (by decide)]
        unfold sgnR
        cases hsg : sgnS s m with
        | some k =>
          have hsz : (signs.getD k ByteArray.empty).size ≤ 5 := by
            rcases Nat.lt_or_ge k signs.length with c | c
            · rw [List.getD_eq_getElem?_getD, List.getElem?_eq_getElem c]
              exact signs_short _ (List.getElem_mem c)
            · rw [List.getD_eq_getElem?_getD, List.getElem?_eq_none c]; decide
          have h := lx_Next_core s i m w hs hi hmm hml false false hdg hlet (fun h => by cases h) 4 0 (signs.getD k ByteArray.empty) 0 (by omega) 28 rfl (fun w1 hw1 => by
            have hn := lx_sign s m w1 (hG2 w1 hw1) (by omega)
            unfold signA at hn
            rw [hsg] at hn
            exact hn)
          rw [if_pos rfl] at h
          exact h
        | none =>
          have h := lx_Next_core s i m w hs hi hmm hml false false hdg hlet (fun h => by cases h) 0 0 emp 15 (by decide) 28 rfl (fun w1 hw1 => by
            have hn := lx_sign s m w1 (hG2 w1 hw1) (by omega)
            unfold signA at hn
            rw [hsg] at hn
            exact hn)
          rw [if_neg (by decide)] at h
          exact h
end Go.Proofs.YtnmofkngengoeaaDoor
