/- A step of the law on both tables; the example; layer 10 (uniq). -/
import Derived.Test.YtmnolldomipgiaaFn4
import Derived.BigQuiet
namespace Go.Proofs.Ytmnolldomipgiaa
open Go.RowKit Go.Maps

theorem ahead_tri {a b : En} (h : a ≠ b) : aheadB a b = !aheadB b a := by
  obtain ⟨a1, a2, a3⟩ := a
  obtain ⟨b1, b2, b3⟩ := b
  unfold aheadB
  simp only
  by_cases h3 : a3 = b3
  · subst h3
    by_cases h1 : a1 = b1
    · subst h1
      have h2 : a2 ≠ b2 := fun e => h (by rw [e])
      simp only [if_true]
      apply Bool.eq_iff_iff.2
      simp; omega
    · have : ¬ b1 = a1 := fun e => h1 e.symm
      simp only [if_true, if_neg h1, if_neg this]
      apply Bool.eq_iff_iff.2
      simp; omega
  · have : ¬ b3 = a3 := fun e => h3 e.symm
    simp only [if_neg h3, if_neg this]
    apply Bool.eq_iff_iff.2
    simp; omega
theorem ahead_irr (a : En) : aheadB a a = false := by unfold aheadB; simp
theorem ahead_trans {a b c : En} (h1 : aheadB a b = true) (h2 : aheadB b c = true) : aheadB a c = true := by
  obtain ⟨a1, a2, a3⟩ := a
  obtain ⟨b1, b2, b3⟩ := b
  obtain ⟨c1, c2, c3⟩ := c
  unfold aheadB at *
  simp only at *
  split at h1 <;> split at h2 <;> split <;> (try split at h1) <;> (try split at h2) <;> (try split) <;> simp at * <;> omega
def Srt (M : List En) : Prop := M.Pairwise (fun a b => aheadB a b = true)
theorem Srt.nodup {M : List En} (h : Srt M) : M.Nodup := h.imp (fun {a b} hab e => by rw [e, ahead_irr] at hab; cases hab)
theorem mem_insE {M : List En} {x : En} (hx : x ∉ M) (e : En) : e ∈ insE M x ↔ e = x ∨ e ∈ M := by
  unfold insE
  simp only [List.mem_append, List.mem_filter, List.mem_singleton]
  constructor
  · rintro ((⟨h, _⟩ | h) | ⟨h, _⟩)
    · exact .inr h
    · exact .inl h
    · exact .inr h
  · rintro (h | h)
    · exact .inl (.inr h)
    · have hne : e ≠ x := fun q => hx (q ▸ h)
      have := ahead_tri hne
      cases q : aheadB e x with
      | true => exact .inl (.inl ⟨h, rfl⟩)
      | false => rw [q] at this; exact .inr ⟨h, by simpa using this.symm⟩
theorem len_filt {x : En} : ∀ {M : List En}, x ∉ M → (M.filter (fun y => aheadB y x)).length + (M.filter (fun y => aheadB x y)).length = M.length
  | [], _ => rfl
  | a :: t, h => by
    have h1 : a ≠ x := fun e => h (by rw [e]; simp)
    have ih := len_filt (M := t) (fun q => h (List.mem_cons_of_mem _ q))
    have ht := ahead_tri h1
    simp only [List.filter_cons, List.length_cons]
    cases q : aheadB x a with
    | true =>
      rw [q] at ht
      simp [ht]; omega
    | false =>
      rw [q] at ht
      simp [ht]; omega
theorem len_insE {M : List En} {x : En} (hx : x ∉ M) : (insE M x).length = M.length + 1 := by
  have := len_filt hx
  unfold insE
  rw [List.length_append, List.length_append]
  simp only [List.length_cons, List.length_nil]
  omega
theorem srt_insE {M : List En} {x : En} (h : Srt M) : Srt (insE M x) := by
  unfold Srt insE
  rw [List.pairwise_append, List.pairwise_append]
  refine ⟨⟨h.sublist List.filter_sublist, List.pairwise_singleton _ _, ?_⟩, h.sublist List.filter_sublist, ?_⟩
  · intro a ha b hb
    simp at hb
    subst hb
    exact (List.mem_filter.1 ha).2
  · intro a ha b hb
    rw [List.mem_append, List.mem_singleton] at ha
    have hb2 := (List.mem_filter.1 hb).2
    rcases ha with ha | rfl
    · exact ahead_trans (List.mem_filter.1 ha).2 hb2
    · exact hb2
theorem cut_sub (M : List En) (k : Nat) : (M.take k ++ M.drop (k + 1)).Sublist M := by
  have e : M.take k ++ M.drop (k + 1) = M.eraseIdx k := by rw [List.eraseIdx_eq_take_drop_succ]
  rw [e]
  exact List.eraseIdx_sublist M k
theorem mem_cut {M : List En} (h : Srt M) {k : Nat} (hk : k < M.length) (e : En) : e ∈ M.take k ++ M.drop (k + 1) ↔ e ≠ ea M k ∧ e ∈ M := by
  have e1 : M = M.take k ++ ea M k :: M.drop (k + 1) := by
    have : ea M k = M[k] := by unfold ea; simp [List.getD, List.getElem?_eq_getElem hk]
    rw [this]
    exact (List.take_append_drop k M).symm.trans (by rw [List.drop_eq_getElem_cons hk])
  have hn := h.nodup
  constructor
  · intro he
    refine ⟨fun q => ?_, (cut_sub M k).mem he⟩
    rw [e1, List.nodup_append] at hn
    rw [q] at he
    rcases List.mem_append.1 he with h1 | h1
    · exact hn.2.2 _ h1 _ (by simp) rfl
    · exact (List.nodup_cons.1 hn.2.1).1 h1
  · rintro ⟨h1, h2⟩
    rw [e1] at h2
    rcases List.mem_append.1 h2 with h2 | h2
    · exact List.mem_append_left _ h2
    · rcases List.mem_cons.1 h2 with h2 | h2
      · exact absurd h2 h1
      · exact List.mem_append_right _ h2
theorem len_cut {M : List En} {k : Nat} (hk : k < M.length) : (M.take k ++ M.drop (k + 1)).length + 1 = M.length := by
  rw [List.length_append, List.length_take, List.length_drop]; omega
theorem look_idx : ∀ (M : List En) (lo hi : Int), lookE M lo hi = (idxE M lo hi).map (fun k => (ea M k).id)
  | [], _, _ => rfl
  | e :: r, lo, hi => by
    have ih := look_idx r lo hi
    have e1 : idxE (e :: r) lo hi = if keyB lo hi e = true then some 0 else (idxE r lo hi).map (· + 1) := rfl
    rw [e1]
    unfold lookE at ih ⊢
    rw [List.find?_cons]
    by_cases h : e.lo = lo ∧ e.hi = hi
    · have h2 : keyB lo hi e = true := by simp [keyB, h]
      simp [h, h2]
      rfl
    · have h2 : ¬ keyB lo hi e = true := by simpa [keyB] using h
      rw [if_neg h2]
      simp only [h, decide_false, Option.map_map]
      rw [ih]
      rfl
theorem srt_do {M : List En} {x : Act} (h : Srt M) : Srt (doE M x).1 := by
  unfold doE
  split
  · cases idxE M x.lo x.hi with
    | some k => exact h
    | none => exact srt_insE h
  · split
    · cases idxE M x.lo x.hi with
      | some k => exact h.sublist (cut_sub M k)
      | none => exact h
    · split
      · exact List.Pairwise.nil
      · exact h
theorem len_do {M : List En} {x : Act} : (doE M x).1.length ≤ M.length + 1 := by
  unfold doE
  split
  · cases hi : idxE M x.lo x.hi with
    | some k => simp
    | none =>
      have hn := idxE_none hi
      have : x.en ∉ M := fun hm => by
        have := hn _ hm
        simp [keyB, Act.en] at this
      have := len_insE this
      simp only
      omega
  · split
    · cases hi : idxE M x.lo x.hi with
      | some k => simp only; have := (cut_sub M k).length_le; omega
      | none => simp
    · split <;> simp
/-- What a step leaves. -/
def Stp (w : World) (T b n : Nat) (M : List En) (w' : World) : Prop := Tb w' T b n M ∧ w.grownBy w' (some b)
set_option maxHeartbeats 4000000 in
theorem l_do {w : World} {T b n : Nat} {M : List En} (h : Tb w T b n M) (hs : Srt M) (x : Act) (hx : x.ok) (hn : n ≤ 1000000) :
    Calls Try.prog 9 #[ptr T, .agg (actR x)] w fun e w' => e = .returned (.int .i64 (doE M x).2) ∧ Stp w T b (n + 1) (doE M x).1 w' := by
  have hb : Below w.heap.size w (w.alloc (.cells (actR x) 28)) := (Below.refl _ _).alloc (Nat.le_refl _) _
  have h1 := h.below hb
  have HG : Hid (∀ m L w', (w.alloc (.cells (actR x) 28)).grownBy w' (some b) → Tb w' T b m L → m ≤ n + 1 → Stp w T b (n + 1) L w') := Lib.hid (fun m L w' hg ht hm => ⟨ht.mono hm, (World.grownBy_alloc w _ (some b)).trans hg⟩)
  have HS : Hid (∀ L, Tb (w.alloc (.cells (actR x) 28)) T b n L → Stp w T b (n + 1) L (w.alloc (.cells (actR x) 28))) := Lib.hid (fun L ht => ⟨ht.mono (by omega), World.grownBy_alloc w _ (some b)⟩)
  have H1 := Lib.hid h1
  have hlk := look_idx M x.lo x.hi
  by_cases h0 : x.op = 0
  · have b0 : (x.op == 0) = true := by simp [h0]
    cases hi : idxE M x.lo x.hi with
    | some k =>
      have e : doE M x = (M, 6) := by unfold doE; rw [if_pos h0, hi]
      have HC := Lib.hid (e_Put_no (id := x.id) h1 hx.lo hx.hi (by rw [hlk, hi]; rfl))
      rw [e]
      unfold actR ptr at *
      clear h h1 hb hs hlk h0 hi e hn hx
      go_enter Try.func9, Try.ntmps9
      go_wp2_with (go_at_call 15; refine HC.out.mono ?_; rintro e w1 ⟨rfl, rfl⟩)
      go_ret
      exact ⟨rfl, HS.out _ H1.out⟩
    | none =>
      have e : doE M x = (insE M x.en, 0) := by unfold doE; rw [if_pos h0, hi]
      have hnm : x.en ∉ M := fun hm => by
        have := idxE_none hi _ hm
        simp [keyB, Act.en] at this
      have HC := Lib.hid (e_Put h1 (x := x.en) ⟨hx.lo, hx.hi, hx.id⟩ (by show lookE M x.lo x.hi = none; rw [hlk, hi]; rfl) (by unfold maxLen; omega) (mem_insE hnm) (len_insE hnm))
      rw [e]
      generalize insE M x.en = L at *
      unfold actR ptr Act.en at *
      clear h h1 hb hs hlk h0 hi e hn hx hnm
      go_enter Try.func9, Try.ntmps9
      go_wp2_with (go_at_call 15; refine HC.out.mono ?_; rintro e w1 ⟨rfl, h2, h3⟩; have HE := Lib.hid (And.intro h2 h3); clear h2 h3)
      go_ret
      exact ⟨rfl, HG.out _ _ _ HE.out.2 HE.out.1 (Nat.le_refl _)⟩
  have b0 : (x.op == 0) = false := by simp [h0]
  by_cases h2 : x.op = 1
  · have b1 : (x.op == 1) = true := by simp [h2]
    cases hi : idxE M x.lo x.hi with
    | some k =>
      obtain ⟨q1, q2, q3⟩ := idxE_some hi
      have e : doE M x = (M.take k ++ M.drop (k + 1), 0) := by unfold doE; rw [if_neg h0, if_pos h2, hi]
      have HC := Lib.hid (e_Cut h1 (ea_mem q1) (mem_cut hs q1) (len_cut q1))
      rw [q2, q3] at HC
      rw [e]
      generalize M.take k ++ M.drop (k + 1) = L at *
      unfold actR ptr at *
      clear h h1 hb hs hlk h0 hi e hn hx q1 q2 q3 h2
      go_enter Try.func9, Try.ntmps9
      go_wp2_with (go_at_call 16; refine HC.out.mono ?_; rintro e w1 ⟨rfl, h2, h3⟩; have HE := Lib.hid (And.intro h2 h3); clear h2 h3)
      go_ret
      exact ⟨rfl, HG.out _ _ _ HE.out.2 HE.out.1 (Nat.le_succ _)⟩
    | none =>
      have e : doE M x = (M, 5) := by unfold doE; rw [if_neg h0, if_pos h2, hi]
      have HC := Lib.hid (e_Cut_no h1 hx.lo hx.hi (by rw [hlk, hi]; rfl))
      rw [e]
      unfold actR ptr at *
      clear h h1 hb hs hlk h0 hi e hn hx h2
      go_enter Try.func9, Try.ntmps9
      go_wp2_with (go_at_call 16; refine HC.out.mono ?_; rintro e w1 ⟨rfl, rfl⟩)
      go_ret
      exact ⟨rfl, HS.out _ H1.out⟩
  have b1 : (x.op == 1) = false := by simp [h2]
  by_cases h3 : x.op = 2
  · have b2 : (x.op == 2) = true := by simp [h3]
    have e : doE M x = ([], 0) := by unfold doE; rw [if_neg h0, if_neg h2, if_pos h3]
    have HC := Lib.hid (e_Clear h1)
    rw [e]
    unfold actR ptr at *
    clear h h1 hb hs hlk h0 e hn hx h2 h3
    go_enter Try.func9, Try.ntmps9
    go_wp2_with (go_at_call 17; refine HC.out.mono ?_; rintro e w1 ⟨rfl, h2, h3⟩; have HE := Lib.hid (And.intro h2 h3); clear h2 h3)
    go_ret
    exact ⟨rfl, HG.out _ _ _ HE.out.2 HE.out.1 (Nat.zero_le _)⟩
  · have b2 : (x.op == 2) = false := by simp [h3]
    have e : doE M x = (M, 0) := by unfold doE; rw [if_neg h0, if_neg h2, if_neg h3]
    rw [e]
    unfold actR at *
    clear h h1 hb hs hlk h0 e hn hx h2 h3
    go_enter Try.func9, Try.ntmps9
    go_wp2
    go_ret
    exact ⟨rfl, HS.out _ H1.out⟩
end Go.Proofs.Ytmnolldomipgiaa
