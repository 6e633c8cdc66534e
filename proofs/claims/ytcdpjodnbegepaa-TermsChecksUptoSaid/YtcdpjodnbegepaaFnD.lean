/- Contracts of Size and Deep, of layer 30 (terms). -/
import Derived.Test.YtcdpjodnbegepaaFnC
import Derived.Test.YtcdpjodnbegepaaFn3
namespace Go.Proofs.Ytcdpjodnbegepaa
open Go.RowKit

/-- One number is the state. -/
def InN (bn : Nat) (S : Nat → Prop) (s : Int) (w : World) : Prop := S bn ∧ Blk w bn 3 #[.int .i64 s]
theorem InN.kept (bn : Nat) : KeptI (InN bn) where
  step := fun S s w w' h hb => ⟨h.1, h.2.below hb h.2.lt⟩
  narrow := fun S s w h hi hh => ⟨⟨hi.1, fun e => by have := hi.2.lt; omega⟩, hi.2⟩
  widen := fun S S' s w h hs => ⟨hs _ h.1, h.2⟩
def stS (s : Int) (_ : Ex) (_ : Int) : Int × Bool := (wrap64 (s + 1), true)
def stD (s : Int) (_ : Ex) (d : Int) : Int × Bool := (max s d, true)
set_option maxHeartbeats 2000000 in
theorem pr_Size1 (bn : Nat) (S : Nat → Prop) (s : Int) (w : World) (t : Ex) (A : Option Addr) (c : Nat) (d : Int) (hI : InN bn S s w) :
    Calls Try.prog 40 #[exV t A c, .int .i64 d, .pointer (some ⟨bn, 0, none⟩)] w (VisP (InN bn) S w (stS s t d)) := by
  obtain ⟨h1, h4⟩ := hI
  obtain ⟨k', hk'⟩ : ∃ k', wrap64 (s + 1) = k' := ⟨_, rfl⟩
  have e0 : w.cell? ⟨bn, 0, none⟩ = some (.int .i64 s) := h4.cell 0
  have f0 := h4.frozen 0
  have hl4 := h4.lt
  have H4 := Lib.hid h4
  have X : Hid (stS s t d = (k', true)) := Lib.hid (by unfold stS; rw [hk'])
  rw [X.out]
  clear h4
  go_enter Try.func40, Try.ntmps40
  go_wp2
  go_ret
  first
    | exact ⟨rfl, ⟨h1, (H4.out.alloc _).set_ 0 _⟩, ((Frm.refl S w).alloc _).set h1 _ _⟩
    | exact ⟨rfl, ⟨h1, (H4.out.set_ 0 _).alloc _⟩, ((Frm.refl S w).set h1 _ _).alloc _⟩
    | exact ⟨rfl, ⟨h1, (H4.out.set_ 0 _)⟩, ((Frm.refl S w).set h1 _ _)⟩
set_option maxHeartbeats 2000000 in
theorem pr_Deep1 (bn : Nat) (S : Nat → Prop) (s : Int) (w : World) (t : Ex) (A : Option Addr) (c : Nat) (d : Int) (hI : InN bn S s w) :
    Calls Try.prog 41 #[exV t A c, .int .i64 d, .pointer (some ⟨bn, 0, none⟩)] w (VisP (InN bn) S w (stD s t d)) := by
  obtain ⟨h1, h4⟩ := hI
  have e0 : w.cell? ⟨bn, 0, none⟩ = some (.int .i64 s) := h4.cell 0
  have f0 := h4.frozen 0
  have hl4 := h4.lt
  have H4 := Lib.hid h4
  obtain ⟨k', hk'⟩ : ∃ k', max s d = k' := ⟨_, rfl⟩
  have HK := Lib.hid hk'
  have X : Hid (stD s t d = (k', true)) := Lib.hid (by unfold stD; rw [hk'])
  rw [X.out]
  clear h4 hk'
  by_cases g : s ≤ d
  · have hx : k' = d := by rw [← HK.out]; omega
    subst hx
    go_enter Try.func41, Try.ntmps41
    go_wp2
    all_goals
      go_ret
      first
        | exact ⟨rfl, ⟨h1, (H4.out.alloc _).set_ 0 _⟩, ((Frm.refl S w).alloc _).set h1 _ _⟩
        | exact ⟨rfl, ⟨h1, (H4.out.set_ 0 _).alloc _⟩, ((Frm.refl S w).set h1 _ _).alloc _⟩
        | (obtain rfl : s = k' := by omega
           first
            | exact ⟨rfl, ⟨h1, (H4.out.alloc _).set_ 0 _⟩, ((Frm.refl S w).alloc _).set h1 _ _⟩
            | exact ⟨rfl, ⟨h1, (H4.out.set_ 0 _).alloc _⟩, ((Frm.refl S w).set h1 _ _).alloc _⟩)
  · have hx : k' = s := by rw [← HK.out]; omega
    subst hx
    go_enter Try.func41, Try.ntmps41
    go_wp2
    all_goals
      go_ret
      first
        | exact ⟨rfl, ⟨h1, (H4.out.alloc _).set_ 0 _⟩, ((Frm.refl S w).alloc _).set h1 _ _⟩
        | exact ⟨rfl, ⟨h1, (H4.out.set_ 0 _).alloc _⟩, ((Frm.refl S w).set h1 _ _).alloc _⟩
mutual
theorem vis_size : ∀ (t : Ex) (d s : Int), 0 ≤ s → s + (t.sz : Int) ≤ 1000000000 → vis stS t d s = (s + (t.sz : Int), true)
  | .mk o v m ks, d, s, h0, h1 => by
    have hz : (Ex.mk o v m ks).sz = 1 + szL ks := rfl
    rw [hz] at h1
    have hw : wrap64 (s + 1) = s + 1 := by unfold wrap64; omega
    rw [vis_eq, hz]
    show (if true = true then visL stS ks (d + 1) (wrap64 (s + 1)) else _) = _
    rw [if_pos rfl, hw, visL_size ks (d + 1) (s + 1) (by omega) (by omega)]
    congr 1; omega
theorem visL_size : ∀ (l : List Ex) (d s : Int), 0 ≤ s → s + (szL l : Int) ≤ 1000000000 → visL stS l d s = (s + (szL l : Int), true)
  | [], d, s, _, _ => by show (s, true) = (s + 0, true); rw [Int.add_zero]
  | t :: r, d, s, h0, h1 => by
    have hz : szL (t :: r) = t.sz + szL r := rfl
    rw [hz] at h1
    show (if (vis stS t d s).2 then visL stS r d (vis stS t d s).1 else ((vis stS t d s).1, false)) = _
    rw [vis_size t d s h0 (by omega), hz]
    show (if true = true then visL stS r d (s + (t.sz : Int)) else _) = _
    rw [if_pos rfl, visL_size r d (s + (t.sz : Int)) (by omega) (by omega)]
    congr 1; omega
end
mutual
theorem vis_deep : ∀ (t : Ex) (d s : Int), vis stD t d s = (max s (d + (t.dp : Int) - 1), true)
  | .mk o v m ks, d, s => by
    have hz : (Ex.mk o v m ks).dp = dpL ks + 1 := rfl
    rw [vis_eq, hz]
    show (if true = true then visL stD ks (d + 1) (max s d) else _) = _
    rw [if_pos rfl, visL_deep ks (d + 1) (max s d)]
    refine Prod.ext ?_ rfl
    cases ks with
    | nil => show max s d = max s (d + ((0 + 1 : Nat) : Int) - 1); omega
    | cons a q =>
      show max (max s d) (d + 1 + (dpL (a :: q) : Int) - 1) = max s (d + ((dpL (a :: q) + 1 : Nat) : Int) - 1)
      omega
theorem visL_deep : ∀ (l : List Ex) (d s : Int), visL stD l d s = (if l = [] then s else max s (d + (dpL l : Int) - 1), true)
  | [], d, s => rfl
  | t :: r, d, s => by
    have hz : dpL (t :: r) = max t.dp (dpL r) := rfl
    show (if (vis stD t d s).2 then visL stD r d (vis stD t d s).1 else ((vis stD t d s).1, false)) = _
    rw [vis_deep t d s, hz]
    show (if true = true then visL stD r d (max s (d + (t.dp : Int) - 1)) else _) = _
    rw [if_pos rfl, visL_deep r d _]
    have hp := dp_eq t
    refine Prod.ext ?_ rfl
    cases r with
    | nil =>
      show max s (d + (t.dp : Int) - 1) = max s (d + ((max t.dp 0 : Nat) : Int) - 1)
      omega
    | cons a q =>
      show max (max s (d + (t.dp : Int) - 1)) (d + (dpL (a :: q) : Int) - 1) = max s (d + ((max t.dp (dpL (a :: q)) : Nat) : Int) - 1)
      omega
end
set_option maxHeartbeats 1000000 in
theorem pr_Size (t : Ex) (A : Option Addr) (c : Nat) (w : World) (hs : t.sz ≤ 100000000) (hR : Rep w.heap.size w A t) : Calls Try.prog 17 #[exV t A c] w fun e w' => e = .returned (.int .i64 (t.sz : Nat)) ∧ Below w.heap.size w w' := by
  have HV : Hid (∀ (bn : Nat) W, InN bn (fun b => w.heap.size ≤ b) 0 W → w.heap.size ≤ W.heap.size → Rep w.heap.size W A t → Calls Try.prog 33 #[exV t A c, .int .i64 1, .func (.func 40) #[] #[.pointer (some ⟨bn, 0, none⟩)]] W (VisP (InN bn) (fun b => w.heap.size ≤ b) W ((t.sz : Nat), true))) := Lib.hid (fun bn W hI hW hR => by
    have h := pr_visit 40 _ (InN bn) stS w.heap.size (.pointer (some ⟨bn, 0, none⟩)) (.bool true) (.inr (.inl ⟨rfl, rfl⟩)) (InN.kept bn) (fun S s w t A c d hI _ _ _ _ _ _ => pr_Size1 bn S s w t A c d hI) t.sz t (Nat.le_refl _) A c 1 (fun b => w.heap.size ≤ b) 0 W hI (fun b hb h => by omega) (fun b hb => by omega) hW hR (by omega) (by omega)
    rw [vis_size t 1 0 (by omega) (by omega)] at h
    rw [Int.zero_add] at h
    exact h)
  have HR := Lib.hid hR
  clear hR
  have HB : Hid (∀ o1 o2, Below w.heap.size w ((w.alloc o1).alloc o2)) := Lib.hid (fun o1 o2 => al (al (Below.refl _ _) _) _)
  generalize t.sz = res at *
  go_enter Try.func17, Try.ntmps17
  have HBX : Hid (∀ o1, InN (w.heap.size + 1) (fun b => w.heap.size ≤ b) 0 ((w.alloc o1).alloc (.cells #[.int .i64 0] 3))) := Lib.hid (fun o1 => by
    have z1 : (w.alloc o1).heap.size = w.heap.size + 1 := by simp
    have b1 := Blk.new (w.alloc o1) 3 #[.int .i64 0]
    rw [z1] at b1
    exact ⟨by omega, b1⟩)
  go_wp2_with (go_at_call 33; (with_reducible refine (HV.out _ _ (HBX.out _) (by simp; omega) (HR.out.under (HB.out _ _))).mono ?_); rintro e w1 ⟨rfl, hI, hf⟩; have q0 : w1.cell? ⟨w.heap.size + 1, 0, none⟩ = some (.int .i64 (res : Int)) := hI.2.cell 0; have HF := Lib.hid hf; clear hI hf)
  go_ret
  exact ⟨rfl, (HB.out _ _).trans (HF.out.below2 (fun k hk h => by omega) (by simp; omega))⟩
set_option maxHeartbeats 1000000 in
theorem pr_Deep (t : Ex) (A : Option Addr) (c : Nat) (w : World) (hs : t.sz ≤ 100000000) (hR : Rep w.heap.size w A t) : Calls Try.prog 18 #[exV t A c] w fun e w' => e = .returned (.int .i64 (t.dp : Nat)) ∧ Below w.heap.size w w' := by
  have HV : Hid (∀ (bn : Nat) W, InN bn (fun b => w.heap.size ≤ b) 0 W → w.heap.size ≤ W.heap.size → Rep w.heap.size W A t → Calls Try.prog 33 #[exV t A c, .int .i64 1, .func (.func 41) #[] #[.pointer (some ⟨bn, 0, none⟩)]] W (VisP (InN bn) (fun b => w.heap.size ≤ b) W ((t.dp : Nat), true))) := Lib.hid (fun bn W hI hW hR => by
    have h := pr_visit 41 _ (InN bn) stD w.heap.size (.pointer (some ⟨bn, 0, none⟩)) (.bool true) (.inr (.inr (.inl ⟨rfl, rfl⟩))) (InN.kept bn) (fun S s w t A c d hI _ _ _ _ _ _ => pr_Deep1 bn S s w t A c d hI) t.sz t (Nat.le_refl _) A c 1 (fun b => w.heap.size ≤ b) 0 W hI (fun b hb h => by omega) (fun b hb => by omega) hW hR (by omega) (by omega)
    rw [vis_deep t 1 0] at h
    have hp := dp_eq t
    rw [show max (0 : Int) (1 + (t.dp : Int) - 1) = (t.dp : Int) by omega] at h
    exact h)
  have HR := Lib.hid hR
  clear hR
  have HB : Hid (∀ o1 o2, Below w.heap.size w ((w.alloc o1).alloc o2)) := Lib.hid (fun o1 o2 => al (al (Below.refl _ _) _) _)
  generalize t.dp = res at *
  go_enter Try.func18, Try.ntmps18
  have HBX : Hid (∀ o1, InN (w.heap.size + 1) (fun b => w.heap.size ≤ b) 0 ((w.alloc o1).alloc (.cells #[.int .i64 0] 3))) := Lib.hid (fun o1 => by
    have z1 : (w.alloc o1).heap.size = w.heap.size + 1 := by simp
    have b1 := Blk.new (w.alloc o1) 3 #[.int .i64 0]
    rw [z1] at b1
    exact ⟨by omega, b1⟩)
  go_wp2_with (go_at_call 33; (with_reducible refine (HV.out _ _ (HBX.out _) (by simp; omega) (HR.out.under (HB.out _ _))).mono ?_); rintro e w1 ⟨rfl, hI, hf⟩; have q0 : w1.cell? ⟨w.heap.size + 1, 0, none⟩ = some (.int .i64 (res : Int)) := hI.2.cell 0; have HF := Lib.hid hf; clear hI hf)
  go_ret
  exact ⟨rfl, (HB.out _ _).trans (HF.out.below2 (fun k hk h => by omega) (by simp; omega))⟩
end Go.Proofs.Ytcdpjodnbegepaa
