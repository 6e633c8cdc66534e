/- What is known of the parts while they are chosen: one step of each kind; layer 42 (sched). -/
import Derived.Test.YtjohdkcgodaeiaaC0
namespace Go.Proofs.Ytjohdkcgodaeiaa
open Go.RowKit

theorem Own.kp {w w' : World} {B : Nat} {v : Value} {l : List Int} (h : Own w B v l) (k : Kp (fun b => B ≤ b) w w') : Own w' B v l := by
  obtain ⟨h1, h2⟩ := h
  refine ⟨h1, ?_⟩
  rcases h2 with h2 | ⟨g2, cap, cur, e, hg2, hh, r⟩
  · exact .inl h2
  · have hlt : g2 < w.heap.size := by
      rcases Nat.lt_or_ge g2 w.heap.size with q | q
      · exact q
      · rw [Array.getElem?_eq_none q] at hh; cases hh
    exact .inr ⟨g2, cap, cur, e, hg2, (k.2 g2 hg2 hlt).trans hh, r⟩
section
variable {w : World} {Z : Nat} {K : Kc} {S : List Rw} {o : List Int} {R : List Nat} {n : Nat} {F : Int → Int} {G : Int → Bool}
theorem Ch.lts (h : Ch w Z K S o R n F G) : K.c < w.heap.size ∧ K.mo < w.heap.size ∧ K.ml < w.heap.size ∧ K.ms < w.heap.size := ⟨h.blk.lt, h.out.lt, h.left.lt, h.seen.lt⟩
theorem Ch.zle (h : Ch w Z K S o R n F G) : Z ≤ w.heap.size := by have := h.blk.lt; have := h.ok.b1; omega
/-- A variable seen. -/
theorem Ch.seenPut (h : Ch w Z K S o R n F G) {v : Int} (hv : In64 v) (hn : n < maxLen) :
    ∃ w', (Instr.mapUpdate 41 (.map (some K.ms)) (.int .i64 v) (.bool true)).run Try.prog w = .ok () w' ∧ Ch w' Z K S o R (n + 1) F (fun y => decide (y = v) || G y) ∧ w.grownBy w' (some K.ms) ∧ Below Z w w' := by
  obtain ⟨w', hr, hs, hg⟩ := h.seen.put hv hn
  have k : Kp (fun b => b ≠ K.ms) w w' := Kp.grown hg (fun b hb => hb)
  refine ⟨w', hr, ⟨?_, ?_, ?_, hs, ?_, ?_, h.ok⟩, hg, (Below.refl Z w).grown hg h.zle (fun x e => by injection e with e; rw [← e]; exact h.ok.b4)⟩
  · exact (k.2 K.c h.ok.a3 h.blk.lt).trans h.blk
  · exact (h.out.at (k.2 K.mo h.ok.a6 h.out.lt)).mono (Nat.le_succ _)
  · exact (h.left.at (k.2 K.ml h.ok.a8 h.left.lt)).mono (Nat.le_succ _)
  · exact h.rest.at (fun hl => k.2 K.rb h.ok.a10.symm hl)
  · exact h.sets.kp (Kp.grown hg (fun b hb => hb.2.2.2.1))
/-- A new number of parts left with a variable. -/
theorem Ch.leftPut (h : Ch w Z K S o R n F G) {v x : Int} (hv : In64 v) (hx : In64 x) (hn : n < maxLen) :
    ∃ w', (Instr.mapUpdate 46 (.map (some K.ml)) (.int .i64 v) (.int .i64 x)).run Try.prog w = .ok () w' ∧ Ch w' Z K S o R (n + 1) (setF F v x) G ∧ w.grownBy w' (some K.ml) ∧ Below Z w w' := by
  obtain ⟨w', hr, hs, hg⟩ := h.left.put hv hx hn
  have k : Kp (fun b => b ≠ K.ml) w w' := Kp.grown hg (fun b hb => hb)
  refine ⟨w', hr, ⟨?_, ?_, hs, ?_, ?_, ?_, h.ok⟩, hg, (Below.refl Z w).grown hg h.zle (fun x e => by injection e with e; rw [← e]; exact h.ok.b3)⟩
  · exact (k.2 K.c h.ok.a2 h.blk.lt).trans h.blk
  · exact (h.out.at (k.2 K.mo h.ok.a5 h.out.lt)).mono (Nat.le_succ _)
  · exact (h.seen.at (k.2 K.ms h.ok.a8.symm h.seen.lt)).mono (Nat.le_succ _)
  · exact h.rest.at (fun hl => k.2 K.rb h.ok.a9.symm hl)
  · exact h.sets.kp (Kp.grown hg (fun b hb => hb.2.2.1))
theorem Ch.more (h : Ch w Z K S o R n F G) {m : Nat} (hm : n ≤ m) : Ch w Z K S o R m F G := ⟨h.blk, h.out.mono hm, h.left.mono hm, h.seen.mono hm, h.rest, h.sets, h.ok⟩
/-- Something that lies elsewhere is made or changed. -/
theorem Ch.kp (h : Ch w Z K S o R n F G) {w' : World} (k : Kp (fun b => b < w.heap.size) w w') : Ch w' Z K S o R n F G where
  blk := (k.2 _ h.blk.lt h.blk.lt).trans h.blk
  out := h.out.at (k.2 _ h.out.lt h.out.lt)
  left := h.left.at (k.2 _ h.left.lt h.left.lt)
  seen := h.seen.at (k.2 _ h.seen.lt h.seen.lt)
  rest := h.rest.at (fun hl => k.2 _ hl hl)
  sets := by
    refine (h.sets.mono (Q' := fun b => K.Q b ∧ b < w.heap.size) (fun b hb hq => ⟨hq, hb⟩)).kp ?_ |>.mono (fun b _ hq => hq.1)
    exact ⟨k.1, fun b hb hl => k.2 b hl hl⟩
  ok := h.ok
theorem Ch.kpB (h : Ch w Z K S o R n F G) {w' : World} {B : Nat} (h1 : K.c < B ∧ K.mo < B ∧ K.ml < B ∧ K.ms < B ∧ K.rb < B) (hq : RQ (fun b => K.Q b ∧ b < B) w K.SA S) (k : Kp (fun b => b < B) w w') : Ch w' Z K S o R n F G ∧ RQ (fun b => K.Q b ∧ b < B) w' K.SA S := by
  have hq2 := hq.kp (w' := w') ⟨k.1, fun b hb hl => k.2 b hb.2 hl⟩
  refine ⟨⟨?_, ?_, ?_, ?_, ?_, ?_, h.ok⟩, hq2⟩
  · exact (k.2 _ h1.1 h.blk.lt).trans h.blk
  · exact h.out.at (k.2 _ h1.2.1 h.out.lt)
  · exact h.left.at (k.2 _ h1.2.2.1 h.left.lt)
  · exact h.seen.at (k.2 _ h1.2.2.2.1 h.seen.lt)
  · exact h.rest.at (fun hl => k.2 _ h1.2.2.2.2 hl)
  · exact hq2.mono (fun b _ hb => hb.1)
theorem RQ.below_self {Q : Nat → Prop} {A : Option Addr} {rows : List Rw} (h : RQ Q w A rows) : RQ (fun b => Q b ∧ b < w.heap.size) w A rows := h.mono (fun _ hb hq => ⟨hq, hb⟩)
/-- A part leaves the row of those left. -/
theorem Ch.restDel (h : Ch w Z K S o R n F G) {cap at' q : Nat} (_hv : K.rv = .slice (some ⟨K.rb, 0, none⟩) R.length cap) (hp : PreB w K.rb (nl R)) (hc : R.length ≤ cap) (hm : cap ≤ maxLen) (hat : at' < R.length) :
    Ch ((Sort.putRow (Value.int .i64) (Sort.ahead w q) K.rb 0 ((nl R).take at' ++ (nl R).drop (at' + 1) ++ List.replicate 1 0).toArray).setCell ⟨K.c, 2, none⟩ (.slice (some ⟨K.rb, 0, none⟩) (R.length - 1) cap)) Z { K with rv := .slice (some ⟨K.rb, 0, none⟩) (R.length - 1) cap } S o (R.eraseIdx at') n F G ∧
    Below Z w ((Sort.putRow (Value.int .i64) (Sort.ahead w q) K.rb 0 ((nl R).take at' ++ (nl R).drop (at' + 1) ++ List.replicate 1 0).toArray).setCell ⟨K.c, 2, none⟩ (.slice (some ⟨K.rb, 0, none⟩) (R.length - 1) cap)) ∧
    Kp (fun b => b ≠ K.c ∧ b ≠ K.rb) w ((Sort.putRow (Value.int .i64) (Sort.ahead w q) K.rb 0 ((nl R).take at' ++ (nl R).drop (at' + 1) ++ List.replicate 1 0).toArray).setCell ⟨K.c, 2, none⟩ (.slice (some ⟨K.rb, 0, none⟩) (R.length - 1) cap)) := by
  have hln := nl_len R
  have hml : ((nl R).take at' ++ (nl R).drop (at' + 1) ++ List.replicate 1 (0 : Int)).length = (nl R).length := by simp; omega
  have hP := hp.put hml q
  have hE : (nl R).take at' ++ (nl R).drop (at' + 1) = nl (R.eraseIdx at') := by
    unfold nl
    rw [List.eraseIdx_eq_take_drop_succ, List.map_append, List.map_take, List.map_drop]
  have hel : (R.eraseIdx at').length = R.length - 1 := by rw [List.length_eraseIdx]; simp [hat]
  obtain ⟨m, hmd⟩ : ∃ m, (nl R).take at' ++ (nl R).drop (at' + 1) ++ List.replicate 1 (0 : Int) = m := ⟨_, rfl⟩
  have hmE : m = nl (R.eraseIdx at') ++ List.replicate 1 (0 : Int) := by rw [← hmd, hE]
  rw [hmd] at hP ⊢
  have hP2 : PreB (Sort.putRow (Value.int .i64) (Sort.ahead w q) K.rb 0 m.toArray) K.rb (nl (R.eraseIdx at') ++ List.replicate 1 (0 : Int)) := by
    have h3 := hP
    generalize Sort.putRow (Value.int .i64) (Sort.ahead w q) K.rb 0 m.toArray = W at *
    rw [← hmE]; exact h3
  have hPs := hP2.short
  clear hP hP2 hmE hmd hml hE
  have k1 : Kp (fun b => b ≠ K.rb) w (Sort.putRow (Value.int .i64) (Sort.ahead w q) K.rb 0 m.toArray) := Kp.put (fun b hb => hb)
  have b1 : Below Z w (Sort.putRow (Value.int .i64) (Sort.ahead w q) K.rb 0 m.toArray) := below_put h.ok.b5
  generalize Sort.putRow (Value.int .i64) (Sort.ahead w q) K.rb 0 m.toArray = W at *
  have k2 : Kp (fun b => b ≠ K.c) W (W.setCell ⟨K.c, 2, none⟩ (.slice (some ⟨K.rb, 0, none⟩) (R.length - 1) cap)) := Kp.set (fun b hb => hb)
  have e : ∀ b, b ≠ K.c → b ≠ K.rb → b < w.heap.size → (W.setCell ⟨K.c, 2, none⟩ (.slice (some ⟨K.rb, 0, none⟩) (R.length - 1) cap)).heap[b]? = w.heap[b]? := fun b h1 h2 h3 => (k2.2 b h1 (Nat.lt_of_lt_of_le h3 k1.1)).trans (k1.2 b h2 h3)
  have hsz : w.heap.size ≤ (W.setCell ⟨K.c, 2, none⟩ (.slice (some ⟨K.rb, 0, none⟩) (R.length - 1) cap)).heap.size := Nat.le_trans k1.1 k2.1
  have ok := h.ok
  refine ⟨⟨?_, ?_, ?_, ?_, ?_, ?_, ⟨ok.a1, ok.a2, ok.a3, ok.a4, ok.a5, ok.a6, ok.a7, ok.a8, ok.a9, ok.a10, ok.b1, ok.b2, ok.b3, ok.b4, ok.b5⟩⟩, b1.setCell (p := ⟨K.c, 2, none⟩) ok.b1 _, hsz, fun b hb hl => e b hb.1 hb.2 hl⟩
  · have h1 : Blk W K.c 48 #[.slice K.SA S.length K.sc, .map (some K.mo), K.rv, .map (some K.ml), .map (some K.ms)] := (k1.2 K.c ok.a4 h.blk.lt).trans h.blk
    exact h1.set_ 2 _
  · exact h.out.at (e K.mo ok.a1.symm ok.a7 h.out.lt)
  · exact h.left.at (e K.ml ok.a2.symm ok.a9 h.left.lt)
  · exact h.seen.at (e K.ms ok.a3.symm ok.a10 h.seen.lt)
  · refine .inr ⟨cap, by rw [hel], by omega, hm, ?_⟩
    exact hPs.at (k2.2 K.rb ok.a4.symm hPs.lt)
  · exact h.sets.kp ⟨hsz, fun b hb hl => e b hb.1 hb.2.2.2.2 hl⟩
end
end Go.Proofs.Ytjohdkcgodaeiaa
