/- Every step of the law; layer 9 (pool). -/
import Derived.Test.YtljclikholchmaaDo
namespace Go.Proofs.Ytljclikholchmaa
open Go.RowKit

section
variable {w w' : World} {base bp : Nat} {room : Int} {F X : Nat → Prop} {A D C : Option Addr} {c d e : Nat} {N M : List Nd} {T : List Bool} {fr : List Int}
theorem pl_Set (h : Pl w base bp room F N fr) (x : Nd) (hid : (Lit.int .i64 x.id).wf = true) : Calls Try.prog 21 #[.pointer (some ⟨bp, 0, none⟩), ndV x] w fun e w' =>
    e = .returned (.int .i64 (if hasF N x.id then 0 else 5)) ∧ PlNext w base bp room F (if hasF N x.id then N.set (x.id - 1).toNat x else N) fr w' := by
  have hb := h.bd
  obtain ⟨An, As, cn, cs, st, hP, h1, h2, h3, hF, h4, h5⟩ := h
  have hFS : F = PoolS bp An As := by funext b; exact propext (hF b).symm
  refine (pool_Set hP hb.1 x hid).mono fun e w' hq => ?_
  by_cases hh : hasF N x.id = true
  · rw [if_pos hh] at hq ⊢
    rw [if_pos hh]
    obtain ⟨q1, q2, q3⟩ := hq
    rw [if_pos hh] at q2
    have hh2 := hh
    unfold hasF at hh2
    simp only [Bool.and_eq_true, decide_eq_true_eq, beq_iff_eq] at hh2
    obtain ⟨c1, c2, c3⟩ := hh2
    refine ⟨q1, F, ⟨An, As, cn, cs, st, q2, h1, by simpa using h2, h3.put (by omega) (by rw [c3]; omega) (by omega), hF, h4, by simpa using h5⟩, by rw [hFS]; exact q3, fun b hb => .inl hb⟩
  · rw [if_neg hh] at hq ⊢
    rw [if_neg hh]
    obtain ⟨q1, q2, q3⟩ := hq
    rw [if_neg hh] at q2
    exact ⟨q1, F, ⟨An, As, cn, cs, st, q2, h1, h2, h3, hF, h4, h5⟩, by rw [hFS]; exact q3, fun b hb => .inl hb⟩
/-- What a step leaves, the two pools alike. -/
def StepS (w : World) (base bp : Nat) (room : Int) (F0 X : Nat → Prop) (k : Nat) (en : Ending) (w' : World) : Prop := ∃ N M T fr, Done w base bp room F0 X N M T fr en w' ∧ Sim N M T fr ∧ N.length ≤ k
theorem Ok.not_taken (h : Ok N fr) (hs : Sim N M T fr) {i : Nat} (hi : i < N.length) (hm : (i : Int) + 1 ∈ fr) : T.getD i false = false := by
  obtain ⟨j, hj, e, h0⟩ := h.rel _ hm
  obtain rfl : i = j := by omega
  rw [hs.tk i hi, h0]
  show ((0 : Int) == (i : Int) + 1) = false
  simp
  omega
theorem Pl.ok (h : Pl w base bp room F N fr) : Ok N fr := by
  obtain ⟨An, As, cn, cs, st, hP, h1, h2, h3, hF, h4, h5⟩ := h
  exact h3
section
variable (hp : Pl w base bp room F N fr) (hXl : ∀ b, X b → b < w.heap.size) (hR : RPool w w.heap.size A c M D d T C e fr) (hq : Own3 (Out F X w.heap.size) A D C) (hs : Sim N M T fr) (k : Nat) (hN : N.length ≤ k) (hk : k ≤ 1000) (q : Nat) (hq255 : q ≤ 255) (id n0 n1 n2 n3 n4 : Int) (hid : (Lit.int .i64 id).wf = true) (hn0 : (Lit.int .i64 n0).wf = true)
include hp hXl hR hq hs hN hk hq255
include hid in
theorem do_give (h2 : (q : Int) % 4 = 2) : Calls Try.prog 10 #[.pointer (some ⟨bp, 0, none⟩), .agg #[.int .i64 room, .slice A M.length c, .slice D T.length d, .slice C fr.length e], .agg #[.int .u8 (q : Int), .int .i64 id, .int .i64 n0, .int .i64 n1, .int .i64 n2, .int .i64 n3, .int .i64 n4]] w (StepS w base bp room F X (k + 1)) := by
  have hlt := hs.lt
  have hlm := hs.lm
  have hfr := hp.ok.len
  have hG : ∀ wx, Below w.heap.size w wx → Calls Try.prog 22 #[.agg #[.int .i64 room, .slice A M.length c, .slice D T.length d, .slice C fr.length e], .int .i64 id] wx (GivR2 wx (Out F X w.heap.size) room M (if hasT T id then T.set (id - 1).toNat false else T) (if hasT T id then fr ++ [id] else fr) (if hasT T id then 0 else 5)) :=
    fun wx hb => r_Give room id (hR.step hb) hq (fun b h => Nat.lt_of_lt_of_le h.2.1 hb.size) (Nat.le_refl _) (by omega) (by omega)
  by_cases hh : hasT T id = true
  · simp only [if_pos hh] at hG
    have hh2 := hh
    unfold hasT at hh2
    simp only [Bool.and_eq_true, decide_eq_true_eq] at hh2
    obtain ⟨c1, c2, c3⟩ := hh2
    obtain ⟨i, rfl⟩ : ∃ i : Nat, id = (i : Int) + 1 := ⟨(id - 1).toNat, by omega⟩
    rw [show ((i : Int) + 1 - 1).toNat = i by omega] at hG c3
    have hi : i < N.length := by omega
    have hx : (N.getD i nd0).id = (i : Int) + 1 := by have := hs.tk i hi; rw [c3] at this; simpa using this.symm
    refine (do_2 hp hXl q hq255 h2 _ n0 n1 n2 n3 n4 0 hG (fun wx hb => pl_Give (hp.below hb) hi hx)).mono fun en w' hd => ⟨_, _, _, _, hd, hs.give hi c3, by rw [List.length_set]; omega⟩
  · simp only [if_neg hh] at hG
    have hf : hasF N id = false := by rw [hs.has]; simpa using hh
    refine (do_2 hp hXl q hq255 h2 _ n0 n1 n2 n3 n4 5 hG (fun wx hb => (pl_Give_none (hp.below hb) id hid hf).mono fun en w' ⟨he, hw⟩ => ⟨he, F, by rw [← hw]; exact hp.below hb, by rw [← hw]; exact Frm.refl _ _, fun b hb => .inl hb⟩)).mono fun en w' hd => ⟨_, _, _, _, hd, hs, by omega⟩
include hn0 in
theorem do_set (h2 : (q : Int) % 4 = 3) : Calls Try.prog 10 #[.pointer (some ⟨bp, 0, none⟩), .agg #[.int .i64 room, .slice A M.length c, .slice D T.length d, .slice C fr.length e], .agg #[.int .u8 (q : Int), .int .i64 id, .int .i64 n0, .int .i64 n1, .int .i64 n2, .int .i64 n3, .int .i64 n4]] w (StepS w base bp room F X (k + 1)) := by
  have hlt := hs.lt
  have hlm := hs.lm
  have hG : ∀ wx, Below w.heap.size w wx → Calls Try.prog 23 #[.agg #[.int .i64 room, .slice A M.length c, .slice D T.length d, .slice C fr.length e], .agg #[.int .i64 n0, .int .i64 n1, .int .i64 n2, .int .i64 n3, .int .i64 n4]] wx (GivR2 wx (Out F X w.heap.size) room (if hasT T n0 then M.set (n0 - 1).toNat ⟨n0, n1, n2, n3, n4⟩ else M) T fr (if hasT T n0 then 0 else 5)) :=
    fun wx hb => r_Set room n0 n1 n2 n3 n4 (hR.step hb) hq (fun b h => Nat.lt_of_lt_of_le h.2.1 hb.size) (Nat.le_refl _) (by omega) (by omega)
  have hP : ∀ wx, Below w.heap.size w wx → Calls Try.prog 21 #[.pointer (some ⟨bp, 0, none⟩), .agg #[.int .i64 n0, .int .i64 n1, .int .i64 n2, .int .i64 n3, .int .i64 n4]] wx fun e w' => e = .returned (.int .i64 (if hasT T n0 then 0 else 5)) ∧ PlNext wx base bp room F (if hasT T n0 then N.set (n0 - 1).toNat ⟨n0, n1, n2, n3, n4⟩ else N) fr w' :=
    fun wx hb => by
      have h5 := pl_Set (hp.below hb) ⟨n0, n1, n2, n3, n4⟩ hn0
      rw [hs.has] at h5
      exact h5
  refine (do_3 hp hXl q hq255 h2 id n0 n1 n2 n3 n4 _ hG hP).mono fun en w' hd => ⟨_, _, _, _, hd, ?_, ?_⟩
  · by_cases hh : hasT T n0 = true
    · rw [if_pos hh, if_pos hh]
      unfold hasT at hh
      simp only [Bool.and_eq_true, decide_eq_true_eq] at hh
      obtain ⟨c1, c2, c3⟩ := hh
      exact hs.set (by omega) c3 (by show n0 = _; omega)
    · rw [if_neg hh, if_neg hh]; exact hs
  · split
    · rw [List.length_set]; omega
    · omega
omit hid hn0 in
theorem do_take_full (h2 : ¬ (q : Int) % 4 = 2) (h3 : ¬ (q : Int) % 4 = 3) (hr : room ≤ (cntT T : Nat)) : Calls Try.prog 10 #[.pointer (some ⟨bp, 0, none⟩), .agg #[.int .i64 room, .slice A M.length c, .slice D T.length d, .slice C fr.length e], .agg #[.int .u8 (q : Int), .int .i64 id, .int .i64 n0, .int .i64 n1, .int .i64 n2, .int .i64 n3, .int .i64 n4]] w (StepS w base bp room F X (k + 1)) := by
  have hlt := hs.lt
  have hbd := hp.bd
  have hcnt := hs.cnt
  have hfr0 : fr = [] := List.eq_nil_of_length_eq_zero (by omega)
  have hG : ∀ wx, Below w.heap.size w wx → Calls Try.prog 24 #[.agg #[.int .i64 room, .slice A M.length c, .slice D T.length d, .slice C fr.length e], .agg #[.int .i64 n0, .int .i64 n1, .int .i64 n2, .int .i64 n3, .int .i64 n4]] wx (GivR3 wx (Out F X w.heap.size) room M T fr 0 7) :=
    fun wx hb => r_Take_full room n0 n1 n2 n3 n4 (hR.step hb) hq (fun b h => Nat.lt_of_lt_of_le h.2.1 hb.size) (Nat.le_refl _) (by omega) hr
  have hP : ∀ wx, Below w.heap.size w wx → Calls Try.prog 19 #[.pointer (some ⟨bp, 0, none⟩), .agg #[.int .i64 n0, .int .i64 n1, .int .i64 n2, .int .i64 n3, .int .i64 n4]] wx fun e w' => e = .returned (.tuple #[.int .i64 0, .int .i64 7]) ∧ PlNext wx base bp room F N fr w' :=
    fun wx hb => by
      have h5 := hp.below hb
      rw [hfr0] at h5 ⊢
      exact pl_Take_full h5 (by omega) ⟨n0, n1, n2, n3, n4⟩
  exact (do_01 hp hXl q hq255 h2 h3 id n0 n1 n2 n3 n4 0 7 hG hP).mono fun en w' hd => ⟨_, _, _, _, hd, hs, by omega⟩
end
theorem do_take_free {f : List Int} {i : Nat} (hp : Pl w base bp room F N (f ++ [(i : Int) + 1])) (hXl : ∀ b, X b → b < w.heap.size) (hR : RPool w w.heap.size A c M D d T C e (f ++ [(i : Int) + 1])) (hq : Own3 (Out F X w.heap.size) A D C) (hs : Sim N M T (f ++ [(i : Int) + 1])) (k : Nat) (hN : N.length ≤ k) (hk : k ≤ 1000) (q : Nat) (hq255 : q ≤ 255) (id n0 n1 n2 n3 n4 : Int)
    (h2 : ¬ (q : Int) % 4 = 2) (h3 : ¬ (q : Int) % 4 = 3) (hr : ¬ room ≤ (cntT T : Nat)) : Calls Try.prog 10 #[.pointer (some ⟨bp, 0, none⟩), .agg #[.int .i64 room, .slice A M.length c, .slice D T.length d, .slice C (f ++ [(i : Int) + 1]).length e], .agg #[.int .u8 (q : Int), .int .i64 id, .int .i64 n0, .int .i64 n1, .int .i64 n2, .int .i64 n3, .int .i64 n4]] w (StepS w base bp room F X (k + 1)) := by
  have hlt := hs.lt
  have hlm := hs.lm
  have hfl := hp.ok.len
  have hap : (f ++ [(i : Int) + 1]).length = f.length + 1 := by simp
  have hi : i < N.length := (hp.ok.take (x := ⟨(i : Int) + 1, 0, 0, 0, 0⟩) rfl).1
  have hT : T.getD i false = false := hp.ok.not_taken hs hi (by simp)
  have hG : ∀ wx, Below w.heap.size w wx → Calls Try.prog 24 #[.agg #[.int .i64 room, .slice A M.length c, .slice D T.length d, .slice C (f ++ [(i : Int) + 1]).length e], .agg #[.int .i64 n0, .int .i64 n1, .int .i64 n2, .int .i64 n3, .int .i64 n4]] wx (GivR3 wx (Out F X w.heap.size) room (M.set i ⟨(i : Int) + 1, n1, n2, n3, n4⟩) (T.set i true) f ((i : Int) + 1) 0) :=
    fun wx hb => by
      rw [hap]
      exact r_Take_free room n0 n1 n2 n3 n4 i (hR.step hb) hq (fun b h => Nat.lt_of_lt_of_le h.2.1 hb.size) (Nat.le_refl _) (by omega) f.length (f.length + 1) rfl rfl (by omega) (by omega) (by omega) hr
  exact (do_01 hp hXl q hq255 h2 h3 id n0 n1 n2 n3 n4 ((i : Int) + 1) 0 hG (fun wx hb => pl_Take_free (hp.below hb) ⟨n0, n1, n2, n3, n4⟩)).mono fun en w' hd => ⟨_, _, _, _, hd, hs.take hi hT rfl, by rw [List.length_set]; omega⟩
end
end Go.Proofs.Ytljclikholchmaa
