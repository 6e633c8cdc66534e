/- All of the specification of layer 2 (bits), over the translation. -/
import Derived.Test.YteoijhmaklocpaaFn9
namespace Go.Proofs.Yteoijhmaklocpaa
open Go.RowKit Go.PlainAid

theorem ref_Hold12 (n : Int) (w : World) :
    Calls Try.prog 24 #[.int .i64 n, .int .i64 0, .int .i64 12] w fun r w' => r = .returned (.int .i64 (tabN n)) ∧ w = w' := by
  have h : (tabN n : Int) = if n < 0 then 0 else if 12 < n then 12 else n := by unfold tabN; split; rfl; split; rfl; omega
  by_cases h0 : n < 0
  · have hF : (tabN n : Int) = 0 := by rw [h, if_pos h0]
    rw [hF]
    clear h hF
    go_enter Try.func24, Try.ntmps24
    go_wp2
    go_ret
    exact ⟨rfl, rfl⟩
  · by_cases h1 : 12 < n
    · have hF : (tabN n : Int) = 12 := by rw [h, if_neg h0, if_pos h1]
      rw [hF]
      clear h hF
      go_enter Try.func24, Try.ntmps24
      go_wp2
      go_ret
      exact ⟨rfl, rfl⟩
    · have hF : (tabN n : Int) = n := by rw [h, if_neg h0, if_neg h1]
      rw [hF]
      clear h hF
      go_enter Try.func24, Try.ntmps24
      go_wp2
      go_ret
      exact ⟨rfl, rfl⟩
theorem info23 : (Try.prog.info? 23).map (fun i => (i.zero, i.size, i.bytes)) = some (some (.slice none 0 0), 1, 24) := by kernel_rfl
/-- A slice of rows: the k-th holds the bits of k. -/
structure RowsA (w : World) (base : Nat) (v : Value) (K : Nat) (vs : List Value) : Prop where
  own : w.ownsRow base 23 1 v vs.length vs
  row : ∀ (k : Nat) (x : Value), vs[k]? = some x → Own w base x (ofL k K)
theorem own_keepA {w w' : World} {base e size n : Nat} {v : Value} {xs : List Value} (h : w.ownsRow base e size v n xs) (hb : Below w.heap.size w w') : w'.ownsRow base e size v n xs := by
  obtain ⟨h1, h2⟩ := h
  refine ⟨h1, ?_⟩
  rcases h2 with h2 | ⟨g, cap, cur, e, hg, hh, r⟩
  · exact .inl h2
  · have hlt : g < w.heap.size := by
      rcases Nat.lt_or_ge g w.heap.size with q | q
      · exact q
      · rw [Array.getElem?_eq_none q] at hh; cases hh
    exact .inr ⟨g, cap, cur, e, hg, (hb.block g hlt).trans hh, r⟩
theorem own_lessA {w : World} {b b2 e size n : Nat} {v : Value} {xs : List Value} (h : w.ownsRow b e size v n xs) (hb : b2 ≤ b) : w.ownsRow b2 e size v n xs := by
  obtain ⟨h1, h2⟩ := h
  refine ⟨h1, ?_⟩
  rcases h2 with h2 | ⟨g, cap, cur, e, hg, r⟩
  · exact .inl h2
  · exact .inr ⟨g, cap, cur, e, Nat.le_trans hb hg, r⟩
theorem own_rowA {w : World} {base e size n : Nat} {v : Value} {xs : List Value} (h : w.ownsRow base e size v n xs) (k : Nat) (hk : v.ownBlock = some k) : base ≤ k ∧ ∃ cs, Blk w k e cs := by
  rcases h.2 with ⟨rfl, _⟩ | ⟨g, cap, cur, rfl, hgb, hh, _⟩
  · cases hk
  · simp only [Value.ownBlock, Option.some.injEq] at hk
    subst hk
    exact ⟨hgb, cur, hh⟩
theorem Blk.same_type {w : World} {g t u : Nat} {cs ds : Array Value} (h : Blk w g t cs) (k : Blk w g u ds) : t = u := by
  unfold Blk at h k
  rw [h] at k
  simp at k
  exact k.2
theorem own_grownA {w w1 : World} {b e size n : Nat} {v : Value} {xs : List Value} {row : Option Nat} (h : w.ownsRow b e size v n xs) (hg : w.grownBy w1 row) (hv : ∀ k, v.ownBlock = some k → row ≠ some k) : w1.ownsRow b e size v n xs := by
  obtain ⟨h1, h2⟩ := h
  refine ⟨h1, ?_⟩
  rcases h2 with h2 | ⟨g, cap, cur, rfl, hgb, hh, r⟩
  · exact .inl h2
  · have hlt : g < w.heap.size := by
      rcases Nat.lt_or_ge g w.heap.size with q | q
      · exact q
      · rw [Array.getElem?_eq_none q] at hh; cases hh
    exact .inr ⟨g, cap, cur, rfl, hgb, (hg.block g hlt (hv g rfl).symm).trans hh, r⟩
section
variable {w w' : World} {base K : Nat} {v : Value} {vs : List Value}
theorem RowsA.keep (h : RowsA w base v K vs) (hb : Below w.heap.size w w') : RowsA w' base v K vs :=
  ⟨own_keepA h.own hb, fun k x hx => own_keepA (h.row k x hx) hb⟩
theorem RowsA.push (h : RowsA w base v K vs) {w1 : World} {v' x : Value} (hown : w1.ownsRow base 23 1 v' (vs.length + 1) (vs ++ [x])) (hg : w.grownBy w1 v.ownBlock) (hx : Own w base x (ofL vs.length K)) : RowsA w1 base v' K (vs ++ [x]) := by
  have hne : ∀ y l, Own w base y l → ∀ k, y.ownBlock = some k → v.ownBlock ≠ some k := fun y l hy k e1 e2 => by
    obtain ⟨_, cs, c1⟩ := own_rowA hy k e1
    obtain ⟨_, ds, c2⟩ := own_rowA h.own k e2
    have := Blk.same_type c1 c2
    cases this
  refine ⟨by rw [List.length_append]; exact hown, fun k y hy => ?_⟩
  rcases Nat.lt_or_ge k vs.length with hk | hk
  · rw [List.getElem?_append_left hk] at hy
    exact own_grownA (h.row k y hy) hg (hne y _ (h.row k y hy))
  · rw [List.getElem?_append_right hk] at hy
    have hk0 : k - vs.length = 0 := by
      rcases Nat.eq_zero_or_pos (k - vs.length) with q | q
      · exact q
      · rw [List.getElem?_eq_none (by simp; omega)] at hy; cases hy
    rw [hk0] at hy
    simp at hy
    subst hy
    have hkk : k = vs.length := by omega
    subst hkk
    exact own_grownA hx hg (hne x _ hx)
end
theorem rows_oneA {l : List Bool} {w : World} {base : Nat} {x : Value} (h : Own w base x l) : x.oneCell' = true := by
  obtain ⟨A, c, rfl, _⟩ := h.rb
  rfl
set_option maxRecDepth 100000 in
set_option maxHeartbeats 1000000 in
theorem ref_All (m : Int) (w : World) : Calls Try.prog 22 #[.int .i64 m] w fun e w' =>
    ∃ v vs, e = .returned v ∧ RowsA w' w.heap.size v (tabN m) vs ∧ vs.length = 2 ^ tabN m ∧ Below w.heap.size w w' := by
  obtain ⟨Z, hZ⟩ : ∃ Z, w.heap.size = Z := ⟨_, rfl⟩
  have hK := tabN_le m
  have HH := Lib.hid (ref_Hold12 m w)
  obtain ⟨K, hKK⟩ : ∃ K, tabN m = K := ⟨_, rfl⟩
  rw [hKK, hZ]
  rw [hKK] at HH hK
  clear hKK
  obtain ⟨i0, hi0, hz0, hz1, hz2⟩ := info_parts info23
  have hE : RowsA (w.alloc (.cells #[] 23)) Z (.slice (some ⟨Z, 0, none⟩) 0 0) K [] := by
    refine ⟨⟨rfl, .inr ⟨Z, 0, #[], rfl, Nat.le_refl _, ?_, Nat.le_refl _, Nat.zero_le _, rfl, rfl⟩⟩, fun k x hx => by simp at hx⟩
    rw [← hZ]
    exact heap_alloc_new w _
  have hbw : Below Z w (w.alloc (.cells #[] 23)) := (Below.refl _ _).alloc (by omega) _
  have HE := Lib.hid hE
  have HB := Lib.hid hbw
  have hK' : (K : Int) ≤ 12 := by omega
  have hcl : clampN (K : Int) = K := by unfold clampN; rw [if_neg (by omega), if_neg (by omega)]; omega
  have HCL := Lib.hid hcl
  clear hE hbw hcl
  go_enter Try.func22, Try.ntmps22
  go_wp2_with fail
  refine HH.out.mono ?_; rintro e w1 ⟨rfl, rfl⟩
  clear HH
  go_wp2_with fail
  go_loop [4, 5] (fun n i => ∃ k : Nat, k ≤ K ∧ i = .int .i64 k ∧ n = .int .i64 ((2 ^ k : Nat) : Int)) (fun _ i => K - (intOf i).toNat)
  case atStart => exact ⟨0, Nat.zero_le _, rfl, rfl⟩
  case round =>
    obtain ⟨k, hk, rfl, rfl⟩ := hrel
    have hp : (2 : Nat) ^ k ≤ 4096 := by have := Nat.pow_le_pow_right (n := 2) (by omega) (show k ≤ 12 by omega); simpa using this
    obtain ⟨P, hP⟩ : ∃ P, (2 : Nat) ^ k = P := ⟨_, rfl⟩
    have HP := Lib.hid hP
    rw [hP] at hp ⊢
    have hp' : (P : Int) ≤ 4096 := by omega
    clear hP
    by_cases hlt : k < K
    · have hlt' : (k : Int) < (K : Int) := by omega
      go_wp2
      go_round
      case rel => exact ⟨k + 1, by omega, by go_num, by rw [Nat.pow_succ, HP.out]; congr 1; omega⟩
      case measure => simp [intOf]; omega
    · have hkK : k = K := by omega
      subst hkK
      clear hlt
      go_wp2_with fail
      go_loopw [3, 6] (fun v i wr => ∃ (t : Nat) (vs : List Value), t ≤ P ∧ i = .int .i64 t ∧ vs.length = t ∧ RowsA wr Z v k vs ∧ Below Z w wr) (fun _ i _ => P - (intOf i).toNat)
      case atStart => exact ⟨0, [], Nat.zero_le _, rfl, rfl, HE.out, HB.out⟩
      case round =>
        obtain ⟨t, vs, ht, rfl, rfl, hr, hb⟩ := hrel
        have HR := Lib.hid hr
        have HB2 := Lib.hid hb
        clear hr hb HE HB
        by_cases htP : vs.length < P
        · have ht' : (vs.length : Int) < (P : Int) := by omega
          have hof := ref_Of vs.length (k : Int) wr (by omega)
          rw [HCL.out] at hof
          have HOf := Lib.hid hof
          have HV := Lib.hid htP
          clear hof
          go_wp2_with fail
          refine HOf.out.mono ?_; rintro e w2 ⟨x, rfl, ho, b2⟩
          have hzr : Z ≤ wr.heap.size := by have := HB2.out.size; omega
          have hR2 := HR.out.keep b2
          have hO2 : Own w2 Z x (ofL vs.length k) := own_lessA ho hzr
          have HB3 := Lib.hid (HB2.out.trans (b2.mono hzr))
          obtain ⟨Av, cv, hv3⟩ : ∃ A c, u3 = .slice A vs.length c := by
            rcases hR2.own.2 with ⟨hv, h0⟩ | ⟨g, cap, cur, hv, _⟩
            · exact ⟨none, 0, by rw [hv, h0]⟩
            · exact ⟨_, _, hv⟩
          subst hv3
          have hone := rows_oneA hO2
          obtain ⟨Ax, cx, rfl, _⟩ := hO2.rb
          rw [ofL_len] at hO2 hone ⊢
          have hal : Below w2.heap.size w2 (w2.alloc (.cells #[.slice Ax k cx] 23)) := (Below.refl _ _).alloc (Nat.le_refl _) _
          have hR3 := hR2.keep hal
          have hO3 : Own (w2.alloc (.cells #[.slice Ax k cx] 23)) Z (.slice Ax k cx) (ofL vs.length k) := own_keepA hO2 hal
          have HO3 := Lib.hid hR3.own
          have HPU := Lib.hid (show ∀ v2 w3, w3.ownsRow Z 23 1 v2 (vs.length + 1) (vs ++ [.slice Ax k cx]) → (w2.alloc (.cells #[.slice Ax k cx] 23)).grownBy w3 (Value.slice Av vs.length cv).ownBlock →
              RowsA w3 Z v2 k (vs ++ [.slice Ax k cx]) ∧ Below Z w w3 from fun v2 w3 hown hg => ⟨hR3.push hown hg hO3, by
            have hz2 : Z ≤ w2.heap.size := Nat.le_trans hzr b2.size
            exact (HB3.out.alloc hz2 _).grown hg (by simp; omega) (fun q e => (own_rowA hR3.own q e).1)⟩)
          have hmx : vs.length + 1 ≤ maxLen := by unfold maxLen; omega
          have hby : (vs.length + 1) * 24 ≤ 140737488355328 := by omega
          have hbs : Z ≤ (w2.alloc (.cells #[.slice Ax k cx] 23)).heap.size := by have := b2.size; simp; omega
          have HM := Lib.hid hmx
          have HBY := Lib.hid hby
          have HBS := Lib.hid hbs
          have HON := Lib.hid hone
          clear hO2 hone hal hR3 hO3 hR2 b2 ho hzr hmx hby hbs HR HB2 HOf hi0 hz0 hz1 hz2 
          obtain ⟨i1, hi0, hz0, hz1, hz2⟩ := info_parts info23
          go_wp2_with (at_builtin; refine wpList_append_own _ rfl _ _ 38 rfl Z 23 i1 _ 1 24 Try.underlying38 hi0 hz0 hz1 hz2 rfl (by decide) (.slice Av vs.length cv) vs.length vs rfl HO3.out ⟨w2.heap.size, 0, none⟩ 1 1 [.slice Ax k cx] rfl rfl (cell_one_new _ _ _) (fun u hu => by rw [List.mem_singleton] at hu; subst hu; exact HON.out) HM.out HBY.out HBS.out ?_; intro v2 w3 hown hg1 _; have HF := Lib.hid (HPU.out _ _ hown hg1); clear hown hg1 HPU HO3 hi0 hz0 hz1 hz2)
          go_wp2
          go_roundw
          case rel => exact ⟨vs.length + 1, vs ++ [.slice Ax k cx], by have := HV.out; omega, by go_num, by simp, HF.out.1, HF.out.2⟩
          case measure => have := HV.out; simp [intOf]; omega
        · have HV := Lib.hid (show vs.length = P by omega)
          have hge : (P : Int) ≤ (vs.length : Int) := by omega
          go_wp2
          go_ret
          exact ⟨_, vs, rfl, HR.out, by rw [HV.out, HP.out], HB2.out⟩
end Go.Proofs.Yteoijhmaklocpaa
