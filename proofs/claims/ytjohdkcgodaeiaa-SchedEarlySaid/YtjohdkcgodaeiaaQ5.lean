/- Live and Widest of the program; the specification's live, Live and Widest; layer 42 (sched). -/
import Derived.Test.YtjohdkcgodaeiaaQ4
import Derived.Test.YtjohdkcgodaeiaaL1
import Derived.Test.YtjohdkcgodaeiaaR4
namespace Go.Proofs.Ytjohdkcgodaeiaa
open Go.RowKit

def mx (rows : List Rw) (K : List (Int × List Int)) : Nat → Nat
  | 0 => 0
  | k + 1 => if mx rows K k < widL rows K k then widL rows K k else mx rows K k
theorem mx_le (rows : List Rw) (K : List (Int × List Int)) (c : Int) : ∀ k, ((mx rows K k : Nat) : Int) ≤ c ↔ 0 ≤ c ∧ ∀ i, i < k → ((widL rows K i : Nat) : Int) ≤ c
  | 0 => by unfold mx; simp
  | k + 1 => by
    have ih := mx_le rows K c k
    rw [mx]
    split
    · constructor
      · intro h
        refine ⟨by omega, fun i hi => ?_⟩
        have h1 := (ih.1 (by omega)).2
        by_cases e : i = k
        · subst e; exact h
        · exact h1 i (by omega)
      · intro h; exact h.2 k (by omega)
    · constructor
      · intro h
        refine ⟨(ih.1 h).1, fun i hi => ?_⟩
        by_cases e : i = k
        · subst e; omega
        · exact (ih.1 h).2 i (by omega)
      · intro h; exact ih.2 ⟨h.1, fun i hi => h.2 i (by omega)⟩
theorem foldl_max_le (l : List Int) : ∀ (a c : Int), l.foldl max a ≤ c ↔ a ≤ c ∧ ∀ x ∈ l, x ≤ c := by
  induction l with
  | nil => intro a c; simp
  | cons x l ih =>
    intro a c
    rw [List.foldl_cons, ih, Int.max_le]
    simp [and_assoc]
theorem max_wl (rows : List Rw) (K : List (Int × List Int)) (k : Nat) : Lib.maxOf (wl rows K k ++ [0]) = ((mx rows K k : Nat) : Int) := by
  have h : ∀ c, Lib.maxOf (wl rows K k ++ [0]) ≤ c ↔ ((mx rows K k : Nat) : Int) ≤ c := by
    intro c
    rw [mx_le]
    unfold Lib.maxOf
    rw [foldl_max_le]
    have hm : ∀ x, x ∈ wl rows K k ↔ ∃ i, i < k ∧ ((widL rows K i : Nat) : Int) = x := fun x => by unfold wl; simp
    constructor
    · rintro ⟨_, h2⟩
      exact ⟨h2 0 (by simp), fun i hi => h2 _ (List.mem_append.2 (.inl ((hm _).2 ⟨i, hi, rfl⟩)))⟩
    · rintro ⟨h1, h2⟩
      have h3 : ∀ x ∈ wl rows K k ++ [0], x ≤ c := fun x hx => by
        rcases List.mem_append.1 hx with h4 | h4
        · obtain ⟨i, hi, rfl⟩ := (hm x).1 h4; exact h2 i hi
        · simp at h4; omega
      refine ⟨?_, h3⟩
      cases e : wl rows K k ++ [0] with
      | nil => simp at e
      | cons y l => exact h3 y (by rw [e]; simp)
  have a := (h (Lib.maxOf (wl rows K k ++ [0]))).1 (Int.le_refl _)
  have b := (h ((mx rows K k : Nat) : Int)).2 (Int.le_refl _)
  omega
theorem max_own {w : World} {B : Nat} {v : Value} {l : List Int} (h : Own w B v (l ++ [0])) : ∃ g cap, v = .slice (some ⟨g, 0, none⟩) (l.length + 1) cap ∧ (l.length ≤ 1000000 → Calls Try.prog 35 #[.slice (some ⟨g, 0, none⟩) (l.length + 1) cap] w fun e w' => e = .returned (.int .i64 (Lib.maxOf (l ++ [0]))) ∧ w' = w) := by
  rcases h.pre with ⟨_, h0⟩ | ⟨g, cap, hv, _, hcap, hcm, hp⟩
  · simp at h0
  · refine ⟨g, cap, by rw [hv]; simp, fun hl => ?_⟩
    have h1 := Any.slices_Max_int Try.laysMax g 0 (l.length + 1) cap (l ++ [0]) w (by omega) (by simp) (by omega) (fun j hj => by rw [Nat.zero_add]; exact hp.cell hj)
    have e : (l ++ [(0 : Int)]).take (l.length + 1) = l ++ [0] := List.take_of_length_le (by simp)
    rw [e] at h1
    exact h1
section
variable (A AO AL : Option Addr) (ca co cl : Nat) (rows : List Rw) (lo : Nat) (T : List St) (w : World) (hP : RR w w.heap.size A rows) (hT : StP w AL T)
    (hr : rows.length ≤ 1000) (hl : T.length ≤ 1000) (hlp : ∀ j, j < rows.length → (pr rows j).length ≤ 1000) (hlo : ∀ k, k < T.length → (stAt T k).2.2.2.length ≤ 1000)
    (hv : ∀ j, j < rows.length → ∀ v ∈ pr rows j, In64 v) (hvo : ∀ k, k < T.length → ∀ v ∈ (stAt T k).2.2.2, In64 v)
include hP hT hr hl hlp hlo hv hvo
def OwnR (w : World) (L : List Int) (e : Ending) (w' : World) : Prop := ∃ v, e = .returned v ∧ Own w' w.heap.size v L ∧ Below w.heap.size w w'
set_option maxRecDepth 100000 in
theorem p_Live : Calls Try.prog 14 #[.slice A rows.length ca, .slice AO lo co, .slice AL T.length cl] w (OwnR w (ll rows (T.map stK) T.length)) := by
  have HF := Lib.hid (p_follow A AL ca cl rows T w hP hT hr hl hlp hlo hv hvo)
  obtain ⟨K, hK⟩ : ∃ K, T.map stK = K := ⟨_, rfl⟩
  have HKL : Hid (K.length = T.length) := Lib.hid (by rw [← hK, List.length_map])
  rw [hK] at HF ⊢
  clear hP hT hr hl hlp hlo hv hvo hK
  go_enter Try.func14, Try.ntmps14
  go_wp2_with (go_at_call 33; refine HF.out.mono ?_; rintro e w1 ⟨wv, lv, rfl, ho1, ho2, hb1⟩; have HO2 := Lib.hid ho2; have HB1 := Lib.hid hb1; clear ho1 ho2 hb1)
  go_ret
  exact ⟨_, rfl, by have h := HO2.out; rwa [HKL.out] at h, HB1.out⟩
set_option maxRecDepth 100000 in
theorem p_Widest : Calls Try.prog 16 #[.slice A rows.length ca, .slice AO lo co, .slice AL T.length cl] w fun e w' => e = .returned (.int .i64 ((mx rows (T.map stK) T.length : Nat) : Int)) ∧ Below w.heap.size w w' := by
  obtain ⟨i0, hi0, hz0, hz1, hz2⟩ := info_parts info3
  have HF := Lib.hid (p_follow A AL ca cl rows T w hP hT hr hl hlp hlo hv hvo)
  obtain ⟨K, hK⟩ : ∃ K, T.map stK = K := ⟨_, rfl⟩
  have HKL : Hid (K.length = T.length) := Lib.hid (by rw [← hK, List.length_map])
  rw [hK] at HF ⊢
  have hwl := wl_len rows K K.length
  have HMX := Lib.hid (max_wl rows K K.length)
  rw [HKL.out] at HMX hwl
  obtain ⟨M, hM⟩ : ∃ M, mx rows K T.length = M := ⟨_, rfl⟩
  rw [hM] at HMX ⊢
  unfold FollowR at HF
  rw [HKL.out] at HF
  obtain ⟨WL, hWL⟩ : ∃ L, wl rows K T.length = L := ⟨_, rfl⟩
  rw [hWL] at HF HMX hwl
  have hwb : WL.length ≤ 1000 := by omega
  clear hP hT hr hl hlp hlo hv hvo hK hM hWL hwl
  go_enter Try.func16, Try.ntmps16
  go_wp2_with (first
    | (go_at_call 35; refine (HM5.out (by omega)).mono ?_; rintro e w6 ⟨rfl, hw6⟩; subst hw6)
    | (at_builtin; refine wpList_append_own _ rfl _ _ 23 rfl w.heap.size 3 i0 _ 1 8 Try.underlying23 hi0 hz0 hz1 hz2 rfl (by decide) _ _ _ rfl (World.ownsRow.alloc HO1.out _) ⟨w1.heap.size, 0, none⟩ 1 1 [.int .i64 0] rfl rfl (cell_one_new _ _ _) (by simp [Value.oneCell']) (max_ok (by omega)) (by omega) (by simp; have := HB1.out.size; omega) ?_; intro v5 w5 hO5 hg5 _; have HB5 := Lib.hid (Own.grow HO1.out HB1.out hg5); obtain ⟨g, cap, rfl, hM⟩ := max_own (Own.push hO5); have HM5 := Lib.hid hM; clear hO5 hg5 hM)
    | (go_at_call 33; refine HF.out.mono ?_; rintro e w1 ⟨wv, lv, rfl, ho1, ho2, hb1⟩; have HO1 := Lib.hid ho1; have HB1 := Lib.hid hb1; clear ho1 ho2 hb1))
  go_ret
  exact ⟨by first | rfl | (rw [HMX.out]; rfl), HB5.out⟩
end
/-- append of a slice of integers that may be nil. -/
theorem wpList_app_ints {w : World} {ops : Array Oper} {rest : List Oper} {o : Oper} {a : Act} {Q : Exit → Act → World → Prop} (hgd : o.guard = none) (s x : Operand)
    (ho : o.op = .call { callee := .builtin .append, args := #[s, x], argTypes := #[23, 23] }) (B : Nat) (v : Value) (l : List Int) (hs : a.eval s = v) (hown : Own w B v l) (A : Option Addr) (c : Nat) (m : List Int)
    (hx : a.eval x = .slice A m.length c) (hr : RI w w.heap.size A m) (hn : A = none → c = 0) (hB : B ≤ w.heap.size) (hl : l.length + m.length ≤ 10000000)
    (h : ∀ v' w', Own w' B v' (l ++ m) → Below B w w' → wpList Try.prog ops Q rest (a.put o.dst v') w') : wpList Try.prog ops Q (o :: rest) a w := by
  obtain ⟨i0, hi0, hz0, hz1, hz2⟩ := info_parts info3
  cases A with
  | none =>
    have hm : m = [] := hr.none_nil
    have hc : c = 0 := hn rfl
    subst hm; subst hc
    refine wpList_append_own_none hgd s x 23 ho B 3 i0 1 Try.underlying23 hi0 v l.length (l.map (Value.int .i64)) hs hown hx ?_
    exact h v w (by rw [List.append_nil]; exact hown) (Below.refl _ _)
  | some ad =>
    refine wpList_append_own_at _ hgd s x 23 ho B 3 i0 _ 1 8 Try.underlying23 hi0 hz0 hz1 hz2 rfl (by decide) v l.length (l.map (Value.int .i64)) hs hown ad m.length c (m.map (Value.int .i64)) hx (by simp) (fun j u hj => (hr.src j u hj).1) (by intro u hu; rw [List.mem_map] at hu; obtain ⟨_, _, rfl⟩ := hu; rfl) (by unfold maxLen; omega) (by omega) hB ?_
    intro v' w' h2 h3 _ _
    refine h v' w' ?_ ((Below.refl B w).grown h3 hB (fun k e => hown.block k e))
    unfold Own
    rw [List.length_append, List.map_append]
    exact h2
end Go.Proofs.Ytjohdkcgodaeiaa
