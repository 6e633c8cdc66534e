/- The state of the law's loop; layer 9 (pool). -/
import Derived.Test.YtljclikholchmaaDn
import Derived.Test.YtljclikholchmaaOpa
import Derived.Test.YtljclikholchmaaWk2
namespace Go.Proofs.Ytljclikholchmaa
open Go.RowKit

theorem Sim.at_eq {N M : List Nd} {T : List Bool} {fr : List Int} (h : Sim N M T fr) (id : Int) : (if hasT T id then M.getD (id - 1).toNat nd0 else nd0) = (if hasF N id then N.getD (id - 1).toNat nd0 else nd0) := by
  rw [h.has]
  by_cases hh : hasT T id = true
  · rw [if_pos hh, if_pos hh]
    unfold hasT at hh
    simp only [Bool.and_eq_true, decide_eq_true_eq] at hh
    obtain ⟨c1, c2, c3⟩ := hh
    exact h.nd _ (by have := h.lt; omega) c3
  · rw [if_neg hh, if_neg hh]
def boxP (room : Int) (A : Option Addr) (n c : Nat) (D : Option Addr) (m d : Nat) (C : Option Addr) (k e : Nat) : Array Value := #[.int .i64 room, .slice A n c, .slice D m d, .slice C k e]
/-- The law's loop: both pools, the specification's in the box X. -/
structure LS (w wr : World) (Z X : Nat) (room : Int) (N M : List Nd) (T : List Bool) (fr : List Int) (A : Option Addr) (c : Nat) (D : Option Addr) (d : Nat) (C : Option Addr) (e : Nat) (F : Nat → Prop) (k : Nat) : Prop where
  pl : Pl wr Z Z room F N fr
  rp : RPool wr wr.heap.size A c M D d T C e fr
  ow : Own3 (Out F (fun b => b = X) wr.heap.size) A D C
  sm : Sim N M T fr
  len : N.length ≤ k
  box : Blk wr X 32 #[.int .i64 room, .slice A M.length c, .slice D T.length d, .slice C fr.length e]
  nf : ¬ F X
  zx : Z < X
  bel : Below Z w wr
section
variable {w wr wx : World} {Z X : Nat} {room : Int} {N M : List Nd} {T : List Bool} {fr : List Int} {A : Option Addr} {c : Nat} {D : Option Addr} {d : Nat} {C : Option Addr} {e : Nat} {F : Nat → Prop} {k : Nat}
theorem Own3.more {G : Nat → Prop} {n n' : Nat} (h : Own3 (Out F G n) A D C) (hn : n ≤ n') : Own3 (Out F G n') A D C := by
  have g : ∀ b, Out F G n b → Out F G n' b := fun b hb => ⟨hb.1, Nat.lt_of_lt_of_le hb.2.1 hn, hb.2.2⟩
  exact ⟨fun b f e => g b (h.1 b f e), fun b f e => g b (h.2.1 b f e), fun b f e => g b (h.2.2 b f e)⟩
theorem LS.below (h : LS w wr Z X room N M T fr A c D d C e F k) (hb : Below wr.heap.size wr wx) : LS w wx Z X room N M T fr A c D d C e F k :=
  ⟨h.pl.below hb, h.rp.step hb, h.ow.more hb.size, h.sm, h.len, h.box.below hb h.box.lt, h.nf, h.zx, h.bel.trans (hb.mono (by have := h.box.lt; have := h.zx; omega))⟩
theorem LS.start {w1 w2 : World} {F : Nat → Prop} (hp : Pl w1 w.heap.size w.heap.size room F [] []) (h1 : Below w.heap.size w w1) (h2 : Below w1.heap.size w1 w2) :
    LS w (w2.alloc (.cells #[.int .i64 room, .slice none 0 0, .slice none 0 0, .slice none 0 0] 32)) w.heap.size w2.heap.size room [] [] [] [] none 0 none 0 none 0 F 0 := by
  have hb : Below w2.heap.size w2 (w2.alloc (.cells #[.int .i64 room, .slice none 0 0, .slice none 0 0, .slice none 0 0] 32)) := bal _ _
  have hbd := hp.bd
  have s2 := h2.size
  refine ⟨(hp.below h2).below hb, ⟨RowG.nil, RowG.nil, RowG.nil, Nat.le_refl _⟩, ⟨(fun b f e => by cases e), (fun b f e => by cases e), (fun b f e => by cases e)⟩, Sim.nil, Nat.le_refl _, Blk.new _ _ _, fun hf => ?_, by omega, ?_⟩
  · have := ((hp.below h2).lo hf).2
    omega
  · exact (h1.trans (h2.mono h1.size)).trans (hb.mono (by omega))
/-- Between the call and the store into the law's box. -/
structure Mid (w w5 : World) (Z X Y : Nat) (room : Int) (N M : List Nd) (T : List Bool) (fr : List Int) (A : Option Addr) (c : Nat) (D : Option Addr) (d : Nat) (C : Option Addr) (e : Nat) (F : Nat → Prop) (k : Nat) (old : Array Value) : Prop where
  pl : Pl w5 Z Z room F N fr
  rp : RPool w5 w5.heap.size A c M D d T C e fr
  ow : Own3 (Out F (fun b => b = X) w5.heap.size) A D C
  sm : Sim N M T fr
  len : N.length ≤ k
  box : Blk w5 X 32 old
  y : Blk w5 Y 32 #[.int .i64 room, .slice A M.length c, .slice D T.length d, .slice C fr.length e]
  xy : Y ≠ X
  nf : ¬ F X
  zx : Z < X
  bel : Below Z w w5
section
variable {w1 : World} {N1 M1 : List Nd} {T1 : List Bool} {fr1 : List Int} {A1 : Option Addr} {c1 : Nat} {D1 : Option Addr} {d1 : Nat} {C1 : Option Addr} {e1 : Nat} {F1 : Nat → Prop}
theorem LS.midA {wq : World} (h : LS w wr Z X room N M T fr A c D d C e F k) (hq0 : Below wr.heap.size wr wq) (hr1 : RPool w1 w1.heap.size A1 c1 M1 D1 d1 T1 C1 e1 fr1) (hp1 : Pl w1 Z Z room F1 N1 fr1) (hq1 : Own3 (Out F1 (fun b => b = X) w1.heap.size) A1 D1 C1)
    (hf1 : Frm F wq w1) (hF1 : ∀ b, F1 b → F b ∨ wq.heap.size ≤ b) (hs1 : Sim N1 M1 T1 fr1) (hn1 : N1.length ≤ k + 1) {w5 : World}
    (h5 : w5 = w1.alloc (.cells #[.int .i64 room, .slice A1 M1.length c1, .slice D1 T1.length d1, .slice C1 fr1.length e1] 32)) :
    Mid w w5 Z X w1.heap.size room N1 M1 T1 fr1 A1 c1 D1 d1 C1 e1 F1 (k + 1) #[.int .i64 room, .slice A M.length c, .slice D T.length d, .slice C fr.length e] := by
  have hXl := h.box.lt
  have hzx := h.zx
  have hal : Below w1.heap.size w1 w5 := by rw [h5]; exact bal _ _
  have s0 := hq0.size
  have s1 := hf1.size
  have hf2 : Frm F wr w1 := (Frm.of_below hq0).trans hf1
  have hb2 : Below Z wr w1 := hf2.below (by omega) (fun b hb => (h.pl.lo hb).1)
  exact ⟨hp1.below hal, hr1.step hal, hq1.more hal.size, hs1, hn1, (hal.block X (by omega)).trans ((hf2.block X hXl h.nf).trans h.box), by rw [h5]; exact Blk.new _ _ _, by omega, fun hf => by
    rcases hF1 X hf with h6 | h6
    · exact h.nf h6
    · omega, hzx, (h.bel.trans hb2).trans (hal.mono (by omega))⟩
theorem LS.midB {wq : World} (h : LS w wr Z X room N M T fr A c D d C e F k) (hq0 : Below wr.heap.size wr wq) (hqs : wr.heap.size < wq.heap.size) {cs : Array Value} (hcs : cs.size = 4) (hqy : Blk wq wr.heap.size 32 cs) (hr1 : RPool w1 w1.heap.size A1 c1 M1 D1 d1 T1 C1 e1 fr1) (hp1 : Pl w1 Z Z room F1 N1 fr1) (hq1 : Own3 (Out F1 (fun b => b = X ∨ b = wr.heap.size) w1.heap.size) A1 D1 C1)
    (hf1 : Frm F wq w1) (hF1 : ∀ b, F1 b → F b ∨ wq.heap.size ≤ b) (hs1 : Sim N1 M1 T1 fr1) (hn1 : N1.length ≤ k + 1) {w5 : World}
    (h5 : w5 = (((w1.setCell ⟨wr.heap.size, 0, none⟩ (.int .i64 room)).setCell ⟨wr.heap.size, 1, none⟩ (.slice A1 M1.length c1)).setCell ⟨wr.heap.size, 2, none⟩ (.slice D1 T1.length d1)).setCell ⟨wr.heap.size, 3, none⟩ (.slice C1 fr1.length e1)) :
    Mid w w5 Z X wr.heap.size room N1 M1 T1 fr1 A1 c1 D1 d1 C1 e1 F1 (k + 1) #[.int .i64 room, .slice A M.length c, .slice D T.length d, .slice C fr.length e] := by
  have hXl := h.box.lt
  have hzx := h.zx
  have s0 := hq0.size
  have s1 := hf1.size
  have s5 : w5.heap.size = w1.heap.size := by rw [h5]; simp
  have hf2 : Frm F wr w1 := (Frm.of_below hq0).trans hf1
  have hb2 : Below Z wr w1 := hf2.below (by omega) (fun b hb => (h.pl.lo hb).1)
  have hb5 : ∀ b, b ≠ wr.heap.size → w5.heap[b]? = w1.heap[b]? := fun b hb => by
    rw [h5, set_blk1 _ _ _ hb, set_blk1 _ _ _ hb, set_blk1 _ _ _ hb, set_blk1 _ _ _ hb]
  have hnY : ¬ F wr.heap.size := fun hf => by have := (h.pl.lo hf).2; omega
  have hnY1 : ¬ F1 wr.heap.size := fun hf => by
    rcases hF1 _ hf with h6 | h6
    · exact hnY h6
    · omega
  have hy1 : Blk w1 wr.heap.size 32 cs := (hf1.block _ hqs hnY).trans hqy
  have hw : ∀ {A : Option Addr}, (∀ b f, A = some ⟨b, f, none⟩ → Out F1 (fun b => b = X ∨ b = wr.heap.size) w1.heap.size b) → ∀ b f, A = some ⟨b, f, none⟩ → Out F1 (fun b => b = X) w5.heap.size b := fun hA b f e => by
    obtain ⟨g1, g2, g3⟩ := hA b f e
    exact ⟨g1, by omega, fun hx => g3 (.inl hx)⟩
  refine ⟨hp1.frm (S := fun b => b = wr.heap.size) ?_ (fun b hb e => hnY1 (e ▸ hb)), hr1.blocks (Pr := Out F1 (fun b => b = X ∨ b = wr.heap.size) w1.heap.size) (n := w1.heap.size) (by omega) ⟨fun b f e => .inl (hq1.1 b f e), fun b f e => .inl (hq1.2.1 b f e), fun b f e => .inl (hq1.2.2 b f e)⟩ (fun b hb hp => hb5 b ?_), ⟨hw hq1.1, hw hq1.2.1, hw hq1.2.2⟩, hs1, hn1, (hb5 X (by omega)).trans ((hf2.block X hXl h.nf).trans h.box), ?_, by omega, fun hf => ?_, hzx, ?_⟩
  · rw [h5]
    exact ((((Frm.refl (fun b => b = wr.heap.size) w1).set (g := wr.heap.size) rfl 0 _).set (g := wr.heap.size) rfl 1 _).set (g := wr.heap.size) rfl 2 _).set (g := wr.heap.size) rfl 3 _
  · rcases hp with hp | hp
    · exact fun e => hp.2.2 (.inr e)
    · omega
  · rw [h5]
    have g := (((hy1.set_ 0 (.int .i64 room)).set_ 1 (.slice A1 M1.length c1)).set_ 2 (.slice D1 T1.length d1)).set_ 3 (.slice C1 fr1.length e1)
    match cs, hcs, g with
    | ⟨[a, b, c, d]⟩, _, g => exact g
  · rcases hF1 X hf with h6 | h6
    · exact h.nf h6
    · omega
  · rw [h5]
    exact ((((h.bel.trans hb2).setCell (p := ⟨wr.heap.size, 0, none⟩) (by show Z ≤ wr.heap.size; omega) _).setCell (p := ⟨wr.heap.size, 1, none⟩) (by show Z ≤ wr.heap.size; omega) _).setCell (p := ⟨wr.heap.size, 2, none⟩) (by show Z ≤ wr.heap.size; omega) _).setCell (p := ⟨wr.heap.size, 3, none⟩) (by show Z ≤ wr.heap.size; omega) _
theorem Mid.put {w5 w6 : World} {Y : Nat} {a0 a1 a2 a3 : Value} (h : Mid w w5 Z X Y room N1 M1 T1 fr1 A1 c1 D1 d1 C1 e1 F1 k #[a0, a1, a2, a3])
    (h6 : w6 = (((w5.setCell ⟨X, 0, none⟩ (.int .i64 room)).setCell ⟨X, 1, none⟩ (.slice A1 M1.length c1)).setCell ⟨X, 2, none⟩ (.slice D1 T1.length d1)).setCell ⟨X, 3, none⟩ (.slice C1 fr1.length e1)) :
    LS w w6 Z X room N1 M1 T1 fr1 A1 c1 D1 d1 C1 e1 F1 k := by
  have hzx := h.zx
  have s6 : w6.heap.size = w5.heap.size := by rw [h6]; simp
  have hb6 : ∀ b, b ≠ X → w6.heap[b]? = w5.heap[b]? := fun b hb => by
    rw [h6, set_blk1 _ _ _ hb, set_blk1 _ _ _ hb, set_blk1 _ _ _ hb, set_blk1 _ _ _ hb]
  refine ⟨h.pl.frm (S := fun b => b = X) ?_ (fun b hb e => h.nf (e ▸ hb)), h.rp.blocks (Pr := Out F1 (fun b => b = X) w5.heap.size) (n := w5.heap.size) (by omega) ⟨fun b f e => .inl (h.ow.1 b f e), fun b f e => .inl (h.ow.2.1 b f e), fun b f e => .inl (h.ow.2.2 b f e)⟩ (fun b hb hp => hb6 b ?_), h.ow.more (by omega), h.sm, h.len, ?_, h.nf, hzx, ?_⟩
  · rw [h6]
    exact ((((Frm.refl (fun b => b = X) w5).set (g := X) rfl 0 _).set (g := X) rfl 1 _).set (g := X) rfl 2 _).set (g := X) rfl 3 _
  · rcases hp with hp | hp
    · exact hp.2.2
    · omega
  · rw [h6]
    exact (((h.box.set_ 0 _).set_ 1 _).set_ 2 _).set_ 3 _
  · rw [h6]
    exact (((h.bel.setCell (p := ⟨X, 0, none⟩) (Nat.le_of_lt hzx) _).setCell (p := ⟨X, 1, none⟩) (Nat.le_of_lt hzx) _).setCell (p := ⟨X, 2, none⟩) (Nat.le_of_lt hzx) _).setCell (p := ⟨X, 3, none⟩) (Nat.le_of_lt hzx) _
theorem Own3.also {n Y : Nat} (h : Own3 (Out F (fun b => b = X) n) A D C) (hY : n ≤ Y) : Own3 (Out F (fun b => b = X ∨ b = Y) n) A D C := by
  have g : ∀ b, Out F (fun b => b = X) n b → Out F (fun b => b = X ∨ b = Y) n b := fun b hb => ⟨hb.1, hb.2.1, fun hx => by
    rcases hx with hx | hx
    · exact hb.2.2 hx
    · have := hb.2.1; omega⟩
  exact ⟨fun b f e => g b (h.1 b f e), fun b f e => g b (h.2.1 b f e), fun b f e => g b (h.2.2 b f e)⟩
end
end
theorem new_bad {n : Int} (h : n < 1 ∨ 1048576 < n) (w : World) : Calls Try.prog 8 #[.int .i64 n] w fun e w' => e = .returned (.tuple #[.pointer none, .int .i64 2]) ∧ w = w' := by
  rcases h with h | h
  · go_enter Try.func8, Try.ntmps8
    go_wp2
    go_ret2
    exact ⟨rfl, rfl⟩
  · have h2 : ¬ n < 1 := by omega
    go_enter Try.func8, Try.ntmps8
    go_wp2
    go_ret2
    exact ⟨rfl, rfl⟩
end Go.Proofs.Ytljclikholchmaa
