/- Tokens written with white space between them are read again; what a token's own text says. Layer 29 (lexi). -/
import Derived.Test.YtnmofkngengoeaaDoorSmath
namespace Go.Proofs.YtnmofkngengoeaaDoor
open Go.RowKit Go.PlainAid

theorem bt_app_l {a b : ByteArray} {i : Nat} (h : i < a.size) : bt (a ++ b) i = bt a i := by
  unfold bt
  rw [dif_pos (by rw [ByteArray.size_append]; omega), dif_pos h, ByteArray.getElem_append_left h]
theorem bt_app_r {a b : ByteArray} {i : Nat} (h : i < b.size) : bt (a ++ b) (a.size + i) = bt b i := by
  unfold bt
  rw [dif_pos (by rw [ByteArray.size_append]; omega), dif_pos h, ByteArray.getElem_append_right (by omega)]
  simp only [Nat.add_sub_cancel_left]
theorem bt_get {x : ByteArray} {i : Nat} (h : i < x.size) : bt x i = ((x[i]'h).toNat : Int) := by unfold bt; rw [dif_pos h]
theorem ba_ext {x y : ByteArray} (h : x.size = y.size) (h2 : ∀ i, i < x.size → bt x i = bt y i) : x = y := by
  apply ByteArray.ext_getElem h
  intro i h1 h3
  have e := h2 i h1
  rw [bt_get h1, bt_get h3] at e
  exact UInt8.toNat_inj.1 (by omega)
theorem span_is {p : Int → Bool} {S : ByteArray} : ∀ n b, b + n ≤ S.size → (∀ i, i < n → p (bt S (b + i)) = true) → (b + n = S.size ∨ p (bt S (b + n)) = false) → span p S b = b + n := by
  intro n
  induction n with
  | zero =>
    intro b _ _ h
    rcases h with h | h
    · exact span_end (by omega)
    · exact span_stop h
  | succ n ih =>
    intro b hb h1 h2
    have h0 : p (bt S b) = true := h1 0 (by omega)
    rw [span_step (by omega) h0, ih (b + 1) (by omega) (fun i hi => by
      have := h1 (i + 1) (by omega)
      rwa [show b + (i + 1) = b + 1 + i by omega] at this) (by rwa [show b + 1 + n = b + (n + 1) by omega])]
    omega
/-- The text x lies in s at place a. -/
def Sub (s : ByteArray) (a : Nat) (x : ByteArray) : Prop := a + x.size ≤ s.size ∧ ∀ i, i < x.size → bt s (a + i) = bt x i
theorem Sub.cut {s x : ByteArray} {a : Nat} (h : Sub s a x) : s.extract a (a + x.size) = x := by
  refine ba_ext (by rw [ByteArray.size_extract]; have := h.1; omega) (fun i hi => ?_)
  have hi2 : i < x.size := by rw [ByteArray.size_extract] at hi; have := h.1; omega
  rw [bt_part (by omega) h.1]; exact h.2 i hi2
theorem sub_cut {s x : ByteArray} {a : Nat} (h : a + x.size ≤ s.size) (e : s.extract a (a + x.size) = x) : Sub s a x :=
  ⟨h, fun i hi => by
    have h2 := bt_part (s := s) (a := a) (b := a + x.size) (i := i) (by omega) h
    rw [← h2, e]⟩
theorem Sub.self (x : ByteArray) : Sub x 0 x := ⟨by omega, fun i _ => by rw [Nat.zero_add]⟩
theorem Sub.app_l {s x : ByteArray} {a : Nat} (h : Sub s a x) (z : ByteArray) : Sub (s ++ z) a x :=
  ⟨by rw [ByteArray.size_append]; have := h.1; omega, fun i hi => by
    rw [bt_app_l (by have := h.1; omega)]; exact h.2 i hi⟩
theorem sub_app_r (a b : ByteArray) : Sub (a ++ b) a.size b := ⟨by rw [ByteArray.size_append]; omega, fun i hi => bt_app_r hi⟩
theorem blk_four {c : Int} (h : blkQ c = true) : c = 32 ∨ c = 9 ∨ c = 10 ∨ c = 13 := by
  unfold blkQ at h
  simpa [or_assoc] using h
theorem blk_nam {c : Int} (h : blkQ c = true) : namQ c = false := by
  rcases blk_four h with rfl | rfl | rfl | rfl <;> decide
theorem blk_dig {c : Int} (h : blkQ c = true) : digQ c = false := by
  rcases blk_four h with rfl | rfl | rfl | rfl <;> decide
theorem sign_blk : ∀ j, j < 21 → ∀ k, k < (signs.getD j ByteArray.empty).size → blkQ (bt (signs.getD j ByteArray.empty) k) = false := by decide +kernel
theorem sgn_first {s : ByteArray} {m j : Nat} (h : sgnS s m = some j) : j < 21 ∧ startsAt s m (signs.getD j ByteArray.empty) = true ∧ ∀ i, i < j → startsAt s m (signs.getD i ByteArray.empty) = false := by
  unfold sgnS at h
  rw [List.find?_eq_some_iff_getElem] at h
  obtain ⟨h1, i, h2, h3, h4⟩ := h
  have h2' : i < 21 := by simpa using h2
  have e : i = j := by simpa using h3
  subst e
  refine ⟨h2', h1, fun q hq => ?_⟩
  have := h4 q hq
  simp only [List.getElem_range] at this
  simpa using this
theorem starts_sub {s y : ByteArray} {m : Nat} (h : Sub s m y) : startsAt s m y = true := by
  unfold startsAt
  rw [h.cut, decide_eq_true h.1]
  unfold eqB
  simp
/-- k, v, x is a token of some string. -/
def Tok (k v : Int) (x : ByteArray) : Prop := ∃ s a, a ≤ s.size ∧ nextS s a = .ok k v x a (a + x.size) ∧ k ≠ 5
theorem next_congr {S : ByteArray} {p q : Nat} (h : blankS S p = blankS S q) : nextS S p = nextS S q := by
  unfold nextS; rw [h]
theorem tok_at {S x : ByteArray} {b : Nat} {k v : Int} (ht : Tok k v x) (hS : Sub S b x) (he : b + x.size = S.size ∨ blkQ (bt S (b + x.size)) = true) :
    nextS S b = .ok k v x b (b + x.size) ∧ blankS S b = b ∧ 0 < x.size := by
  obtain ⟨s, a, ha, hs, hk⟩ := ht
  obtain ⟨g1, _, g3, g4, g5⟩ := next_says ha hs hk
  have hX : Sub s a x := sub_cut g3 g4
  have hbt : ∀ i, i < x.size → bt S (b + i) = bt s (a + i) := fun i hi => by rw [hS.2 i hi, hX.2 i hi]
  have h0 : bt S b = bt s a := hbt 0 g5
  have hSl := hS.1
  obtain ⟨d1, d2⟩ : ddQ s a = false ∧ blkQ (bt s a) = false := by
    have h := blank_at (s := s) (s.size - a) a (by omega)
    rw [← g1] at h
    rcases h with h | h
    · omega
    · exact h
  have hB : blankS S b = b := by
    refine blank_stop ?_ (by rw [h0]; exact d2)
    cases hd : ddQ S b with
    | false => rfl
    | true =>
      exfalso
      unfold ddQ at hd d1
      simp only [Bool.and_eq_true, decide_eq_true_eq, beq_iff_eq] at hd
      obtain ⟨⟨e1, e2⟩, e3⟩ := hd
      by_cases h2 : 1 < x.size
      · have e4 := hbt 1 h2
        rw [e3] at e4
        rw [h0] at e2
        rw [e2, ← e4, decide_eq_true (by omega)] at d1
        exact absurd d1 (by decide)
      · have h1 : x.size = 1 := by omega
        rw [h1] at he
        rcases he with he | he
        · omega
        · rw [e3] at he; exact absurd he (by decide)
  refine ⟨?_, hB, g5⟩
  have hspan : ∀ p : Int → Bool, (∀ c, blkQ c = true → p c = false) → span p s a = a + x.size → span p S b = b + x.size := fun p hp h =>
    span_is x.size b hS.1 (fun i hi => by rw [hbt i hi]; exact span_in (s.size - a) a (a + i) (by omega) (by omega) (by omega)) (he.imp id (hp _))
  unfold nextS at hs ⊢
  rw [← g1, if_neg (by omega)] at hs
  rw [hB, if_neg (by omega), h0]
  by_cases hl : letQ (bt s a) = true
  · rw [if_pos hl] at hs ⊢
    by_cases hw : wordQ (s.extract a (span namQ s a)) = true
    · rw [if_pos hw] at hs
      injection hs with e1 e2 e3 e4 e5
      rw [e3] at hw
      rw [hspan namQ (fun _ => blk_nam) e5, hS.cut, if_pos hw, e1, e2]
    · rw [if_neg hw] at hs
      by_cases h24 : 24 < span namQ s a - a
      · rw [if_pos h24] at hs; cases hs
      · rw [if_neg h24] at hs
        injection hs with e1 e2 e3 e4 e5
        rw [e3] at hw
        rw [hspan namQ (fun _ => blk_nam) e5, hS.cut, if_neg hw, if_neg (by omega), e1, e2]
  · rw [if_neg hl] at hs ⊢
    by_cases hd : digQ (bt s a) = true
    · rw [if_pos hd] at hs ⊢
      by_cases hz : 1 < span digQ s a - a ∧ bt s a = 48
      · rw [if_pos hz] at hs; cases hs
      · rw [if_neg hz] at hs
        by_cases hv : 255 < valS (s.extract a (span digQ s a))
        · rw [if_pos hv] at hs; cases hs
        · rw [if_neg hv] at hs
          injection hs with e1 e2 e3 e4 e5
          rw [e3] at hv e2
          rw [hspan digQ (fun _ => blk_dig) e5, hS.cut, if_neg (by rw [e5] at hz; rwa [show b + x.size - b = a + x.size - a by omega]), if_neg hv, e1, e2]
    · rw [if_neg hd] at hs ⊢
      unfold sgnR at hs ⊢
      cases hj : sgnS s a with
      | none => rw [hj] at hs; cases hs
      | some j =>
        rw [hj] at hs
        obtain ⟨h1, h2, h3⟩ := sgn_first hj
        injection hs with e1 e2 e3 e4 e5
        have hjS : sgnS S b = some j := by
          refine sgn_some h1 (by rw [e3]; exact starts_sub hS) (fun i hi => ?_)
          cases hc : startsAt S b (signs.getD i ByteArray.empty) with
          | false => rfl
          | true =>
            exfalso
            obtain ⟨q1, q2⟩ := starts_at hc
            have hY := sub_cut q1 q2
            have hnb := sign_blk i (by omega)
            have hno := h3 i hi
            generalize signs.getD i ByteArray.empty = y at *
            by_cases hle : y.size ≤ x.size
            · have : Sub s a y := ⟨by omega, fun n hn => by rw [← hbt n (by omega)]; exact hY.2 n hn⟩
              rw [starts_sub this] at hno; cases hno
            · rcases he with he | he
              · omega
              · rw [hY.2 x.size (by omega), hnb x.size (by omega)] at he; cases he
        rw [hjS]
        show Rs.ok 4 0 (signs.getD j ByteArray.empty) b (b + (signs.getD j ByteArray.empty).size) = _
        rw [e3, e1, e2]
theorem tok_self {k v : Int} {x : ByteArray} (ht : Tok k v x) : nextS x 0 = .ok k v x 0 x.size ∧ 0 < x.size := by
  obtain ⟨h1, _, h3⟩ := tok_at ht (Sub.self x) (.inl (by omega))
  rw [Nat.zero_add] at h1
  exact ⟨h1, h3⟩
theorem tok_is {k v : Int} {x : ByteArray} (ht : Tok k v x) : isS x = (k == 2) := by
  obtain ⟨h, h2, h3⟩ := tok_at ht (Sub.self x) (.inl (by omega))
  unfold nextS at h
  rw [h2, if_neg (by omega)] at h
  unfold isS
  by_cases hl : letQ (bt x 0) = true
  · rw [if_pos hl] at h
    by_cases hw : wordQ (x.extract 0 (span namQ x 0)) = true
    · rw [if_pos hw] at h
      injection h with e1 e2 e3 e4 e5
      rw [e3] at hw
      rw [hw, ← e1]; simp
    · rw [if_neg hw] at h
      by_cases h24 : 24 < span namQ x 0 - 0
      · rw [if_pos h24] at h; cases h
      · rw [if_neg h24] at h
        injection h with e1 e2 e3 e4 e5
        rw [e3] at hw
        have e6 : span namQ x 0 = x.size := by omega
        rw [e6] at h24
        rw [← e1, hl, e6, decide_eq_true h3, decide_eq_true (by omega), decide_eq_true rfl]
        simp [hw]
  · have hl' : letQ (bt x 0) = false := by simpa using hl
    rw [if_neg hl] at h
    rw [hl']
    by_cases hd : digQ (bt x 0) = true
    · rw [if_pos hd] at h
      by_cases hz : 1 < span digQ x 0 - 0 ∧ bt x 0 = 48
      · rw [if_pos hz] at h; cases h
      · rw [if_neg hz] at h
        by_cases hv : 255 < valS (x.extract 0 (span digQ x 0))
        · rw [if_pos hv] at h; cases h
        · rw [if_neg hv] at h
          injection h with e1 e2 e3 e4 e5
          rw [← e1]; simp
    · rw [if_neg hd] at h
      unfold sgnR at h
      cases hj : sgnS x 0 with
      | none => rw [hj] at h; cases h
      | some j => rw [hj] at h; injection h with e1; rw [← e1]; simp
/-- The five kinds of white space that the law writes. -/
def bls : List ByteArray := [⟨#[32]⟩, ⟨#[10]⟩, ⟨#[9, 32, 13]⟩, ⟨#[32, 45, 45, 32, 120, 32, 58, 61, 32, 49, 10]⟩, ⟨#[32, 45, 45, 10]⟩]
def blA (j : Nat) : ByteArray := bls.getD j ByteArray.empty
theorem bl_le : ∀ j, j < 5 → (blA j).size ≤ 11 := by decide +kernel
theorem bl_pos : ∀ j, j < 5 → 0 < (blA j).size := by decide +kernel
theorem bl_head : ∀ j, j < 5 → blkQ (bt (blA j) 0) = true := by decide +kernel
theorem blk_step {S : ByteArray} {p : Nat} {c : Int} (hp : p < S.size) (hb : bt S p = c) (hc : blkQ c = true) : blankS S p = blankS S (p + 1) := by
  rw [← hb] at hc
  exact blank_one hp (blk_dd hc) hc
theorem rem_step {S : ByteArray} {p n : Nat} (hp : p + n + 3 ≤ S.size) (h0 : bt S p = 45) (h1 : bt S (p + 1) = 45) (hr : ∀ i, i < n + 2 → rmkQ (bt S (p + i)) = true) (he : bt S (p + (n + 2)) = 10) : blankS S p = blankS S (p + n + 3) := by
  have hd : ddQ S p = true := by
    unfold ddQ
    rw [h0, h1, decide_eq_true (by omega)]; rfl
  rw [blank_rem hd, span_is (n + 2) p (by omega) hr (.inr (by rw [he]; rfl)), blk_step (by omega) he (by rfl)]
  congr 1
theorem bl_over {S : ByteArray} {p j : Nat} (hj : j < 5) (h : Sub S p (blA j)) : blankS S p = blankS S (p + (blA j).size) := by
  obtain ⟨h1, h2⟩ := h
  obtain rfl | rfl | rfl | rfl | rfl : j = 0 ∨ j = 1 ∨ j = 2 ∨ j = 3 ∨ j = 4 := by omega
  · have hs : p + 1 ≤ S.size := h1
    exact blk_step (by omega) (h2 0 (by decide)) (by decide)
  · have hs : p + 1 ≤ S.size := h1
    exact blk_step (by omega) (h2 0 (by decide)) (by decide)
  · have hs : p + 3 ≤ S.size := h1
    exact ((blk_step (by omega) (h2 0 (by decide)) (by decide)).trans (blk_step (by omega) (h2 1 (by decide)) (by decide))).trans (blk_step (by omega) (h2 2 (by decide)) (by decide))
  · have hs : p + 11 ≤ S.size := h1
    have hr : ∀ i, i < 7 + 2 → rmkQ (bt (blA 3) (i + 1)) = true := by decide +kernel
    have a1 : bt S (p + 1) = 45 := h2 1 (by decide)
    have a2 : bt S (p + 1 + 1) = 45 := h2 2 (by decide)
    have a3 : bt S (p + 1 + (7 + 2)) = 10 := h2 10 (by decide)
    refine (blk_step (by omega) (h2 0 (by decide)) (by decide)).trans (rem_step (n := 7) (by omega) a1 a2 (fun i hi => ?_) a3)
    rw [show p + 1 + i = p + (i + 1) by omega, h2 (i + 1) (by show i + 1 < 11; omega)]
    exact hr i hi
  · have hs : p + 4 ≤ S.size := h1
    have hr : ∀ i, i < 0 + 2 → rmkQ (bt (blA 4) (i + 1)) = true := by decide +kernel
    have a1 : bt S (p + 1) = 45 := h2 1 (by decide)
    have a2 : bt S (p + 1 + 1) = 45 := h2 2 (by decide)
    have a3 : bt S (p + 1 + (0 + 2)) = 10 := h2 3 (by decide)
    refine (blk_step (by omega) (h2 0 (by decide)) (by decide)).trans (rem_step (n := 0) (by omega) a1 a2 (fun i hi => ?_) a3)
    rw [show p + 1 + i = p + (i + 1) by omega, h2 (i + 1) (by show i + 1 < 4; omega)]
    exact hr i hi
/-- What the law writes for the first i tokens. -/
def Tb (l : List Tk) (f : Nat → Nat) : Nat → ByteArray
  | 0 => ⟨#[]⟩
  | i + 1 => (Tb l f i ++ blA (f i)) ++ (tkAt l i).2.2.1
theorem Tb_size (l : List Tk) (f : Nat → Nat) (i : Nat) : (Tb l f (i + 1)).size = (Tb l f i).size + (blA (f i)).size + (tkAt l i).2.2.1.size := by
  rw [Tb, ByteArray.size_append, ByteArray.size_append]
theorem Tb_sub (l : List Tk) (f : Nat → Nat) (n i : Nat) (h : i < n) : Sub (Tb l f n) (Tb l f i).size (blA (f i)) ∧ Sub (Tb l f n) ((Tb l f i).size + (blA (f i)).size) (tkAt l i).2.2.1 := by
  induction n with
  | zero => omega
  | succ n ih =>
    rw [Tb]
    rcases Nat.lt_or_ge i n with c | c
    · obtain ⟨h1, h2⟩ := ih c
      exact ⟨(h1.app_l _).app_l _, (h2.app_l _).app_l _⟩
    · obtain rfl : i = n := by omega
      refine ⟨(sub_app_r _ _).app_l _, ?_⟩
      have h2 := sub_app_r (Tb l f i ++ blA (f i)) (tkAt l i).2.2.1
      rwa [ByteArray.size_append] at h2
def Tl (l : List Tk) (f : Nat → Nat) (n : Nat) : List Tk := (List.range n).map fun i => ((tkAt l i).1, (tkAt l i).2.1, (tkAt l i).2.2.1, (Tb l f i).size + (blA (f i)).size)
theorem Tl_length (l : List Tk) (f : Nat → Nat) (n : Nat) : (Tl l f n).length = n := by unfold Tl; simp
theorem Tl_at (l : List Tk) (f : Nat → Nat) (n i : Nat) (h : i < n) : tkAt (Tl l f n) i = ((tkAt l i).1, (tkAt l i).2.1, (tkAt l i).2.2.1, (Tb l f i).size + (blA (f i)).size) := by
  unfold Tl
  show ((List.range n).map _).getD i _ = _
  rw [List.getD_eq_getElem?_getD, List.getElem?_map, List.getElem?_range h]
  rfl
theorem all_again (l : List Tk) (f : Nat → Nat) (hf : ∀ i, f i < 5) (ht : ∀ i, i < l.length → Tok (tkAt l i).1 (tkAt l i).2.1 (tkAt l i).2.2.1) :
    ∀ d i fuel, i + d = l.length → (Tb l f l.length ++ ⟨#[32]⟩).size + 1 ≤ fuel + (Tb l f i).size → allL (Tb l f l.length ++ ⟨#[32]⟩) fuel (Tb l f i).size (Tl l f i) = .ok (Tl l f l.length) := by
  obtain ⟨S, hS⟩ : ∃ S, Tb l f l.length ++ (⟨#[32]⟩ : ByteArray) = S := ⟨_, rfl⟩
  rw [hS]
  have hlast : Sub S (Tb l f l.length).size ⟨#[32]⟩ := by rw [← hS]; exact sub_app_r _ _
  have hsz : S.size = (Tb l f l.length).size + 1 := by rw [← hS, ByteArray.size_append]; rfl
  have hsub : ∀ i, i < l.length → Sub S (Tb l f i).size (blA (f i)) ∧ Sub S ((Tb l f i).size + (blA (f i)).size) (tkAt l i).2.2.1 := fun i hi => by
    obtain ⟨h1, h2⟩ := Tb_sub l f l.length i hi
    rw [← hS]
    exact ⟨h1.app_l _, h2.app_l _⟩
  intro d
  induction d with
  | zero =>
    intro i fuel hi hfu
    obtain rfl : i = l.length := by omega
    obtain ⟨fu, rfl⟩ : ∃ k, fuel = k + 1 := ⟨fuel - 1, by omega⟩
    have hb : blankS S (Tb l f l.length).size = S.size := by
      have h32 : bt S (Tb l f l.length).size = 32 := hlast.2 0 (by decide)
      rw [blk_step (by omega) h32 (by decide), blank_end (by omega)]
      exact hsz.symm
    have hn : nextS S (Tb l f l.length).size = .ok 5 0 emp S.size S.size := by
      unfold nextS; rw [hb, if_pos (Nat.le_refl _)]
    rw [allL, hn]
    simp
  | succ d ih =>
    intro i fuel hi hfu
    have hil : i < l.length := by omega
    obtain ⟨h1, h2⟩ := hsub i hil
    have hs1 := Tb_size l f i
    have hp1 := bl_pos (f i) (hf i)
    have hend : (Tb l f i).size + (blA (f i)).size + (tkAt l i).2.2.1.size = S.size ∨ blkQ (bt S ((Tb l f i).size + (blA (f i)).size + (tkAt l i).2.2.1.size)) = true := by
      refine .inr ?_
      rw [← hs1]
      rcases Nat.lt_or_ge (i + 1) l.length with c | c
      · have := (hsub (i + 1) c).1.2 0 (bl_pos _ (hf _))
        rw [Nat.add_zero] at this
        rw [this]; exact bl_head _ (hf _)
      · obtain e : i + 1 = l.length := by omega
        have := hlast.2 0 (by decide)
        rw [Nat.add_zero] at this
        rw [e, this]; decide
    obtain ⟨hn, hbl, hxp⟩ := tok_at (ht i hil) h2 hend
    have hk : (tkAt l i).1 ≠ 5 := by obtain ⟨_, _, _, _, h⟩ := ht i hil; exact h
    have hn2 : nextS S (Tb l f i).size = .ok (tkAt l i).1 (tkAt l i).2.1 (tkAt l i).2.2.1 ((Tb l f i).size + (blA (f i)).size) ((Tb l f i).size + (blA (f i)).size + (tkAt l i).2.2.1.size) := by
      rw [← hn]; exact next_congr (bl_over (hf i) h1)
    have hle : (Tb l f (i + 1)).size ≤ S.size := by have := h2.1; omega
    obtain ⟨fu, rfl⟩ : ∃ k, fuel = k + 1 := ⟨fuel - 1, by omega⟩
    rw [allL, hn2]
    have hg := ih (i + 1) fu (by omega) (by omega)
    have hT : Tl l f (i + 1) = Tl l f i ++ [((tkAt l i).1, (tkAt l i).2.1, (tkAt l i).2.2.1, (Tb l f i).size + (blA (f i)).size)] := by
      unfold Tl; rw [List.range_succ, List.map_append]; rfl
    rw [hs1, hT] at hg
    simpa only [hk, if_false] using hg
theorem Tb_bound {s : ByteArray} {l : List Tk} (h : allS s = .ok l) (f : Nat → Nat) (hf : ∀ i, f i < 5) : ∀ i, i ≤ l.length → (Tb l f i).size ≤ 11 * i + posT l i := by
  intro i
  induction i with
  | zero => intro _; exact Nat.zero_le _
  | succ i ih =>
    intro hi
    obtain ⟨_, hS⟩ := all_says h
    obtain ⟨g1, g2, g3, _⟩ := hS i (by omega)
    have h1 := ih (by omega)
    have h2 := Tb_size l f i
    have h3 := bl_le (f i) (hf i)
    have h4 := blank_le (s := s) (s.size - posT l i) (posT l i) (by omega)
    omega
theorem all_toks {s : ByteArray} {l : List Tk} (h : allS s = .ok l) : ∀ i, i < l.length → Tok (tkAt l i).1 (tkAt l i).2.1 (tkAt l i).2.2.1 := fun i hi => by
  obtain ⟨_, hS⟩ := all_says h
  obtain ⟨g1, g2, g3, g4, g5, g6, g7⟩ := hS i hi
  refine ⟨s, (tkAt l i).2.2.2, by omega, by rw [← g3]; exact g7, fun h5 => ?_⟩
  rw [h5] at g7
  have h1 := next_end (by omega) g7
  have h2 := blank_idem (s := s) g2
  rw [← g1] at h2
  omega
/-- All of what the law writes gives the same tokens at their places there. -/
theorem all_written {s : ByteArray} {l : List Tk} (h : allS s = .ok l) (f : Nat → Nat) (hf : ∀ i, f i < 5) (hs : s.size ≤ 1500) (hl : l.length ≤ 200) :
    allS (Tb l f l.length ++ ⟨#[32]⟩) = .ok (Tl l f l.length) ∧ (Tb l f l.length).size ≤ 3700 := by
  have hb := Tb_bound h f hf l.length (Nat.le_refl _)
  have hp : posT l l.length ≤ s.size := by
    rcases Nat.eq_zero_or_pos l.length with h0 | h0
    · rw [h0]; exact Nat.zero_le _
    · obtain ⟨j, hj⟩ : ∃ j, l.length = j + 1 := ⟨l.length - 1, by omega⟩
      rw [hj]; exact ((all_says h).2 j (by omega)).2.2.2.1
  have hsz : (Tb l f l.length ++ (⟨#[32]⟩ : ByteArray)).size = (Tb l f l.length).size + 1 := by rw [ByteArray.size_append]; rfl
  refine ⟨?_, by omega⟩
  unfold allS
  rw [if_neg (by omega)]
  exact all_again l f hf (all_toks h) l.length 0 _ (by omega) (by show _ ≤ _ + 0; omega)
end Go.Proofs.YtnmofkngengoeaaDoor
