/- The choice while it is made: rows that grow; layer 42 (sched). -/
import Derived.Test.YtjohdkcgodaeiaaC1
namespace Go.Proofs.Ytjohdkcgodaeiaa
open Go.RowKit

def rcs (S : List Rw) : List Value := S.map rcell
theorem rcs_at {S : List Rw} {i : Nat} (h : i < S.length) : (rcs S)[i]? = some (rcell (rw_ S i)) := by
  unfold rcs rw_; simp [h, List.getD]
theorem rw_app_lt {S : List Rw} {r : Rw} {i : Nat} (h : i < S.length) : rw_ (S ++ [r]) i = rw_ S i := by unfold rw_; simp [List.getD, List.getElem?_append_left h]
theorem rw_app_eq (S : List Rw) (r : Rw) : rw_ (S ++ [r]) S.length = r := by unfold rw_; simp [List.getD]
/-- The row of slices is the call's own. -/
def OwnS (w : World) (Z : Nat) (v : Value) (S : List Rw) : Prop := w.ownsRow Z 23 1 v S.length (rcs S)
theorem OwnS.form {w : World} {Z : Nat} {v : Value} {S : List Rw} (h : OwnS w Z v S) : ∃ A c, v = .slice A S.length c ∧ ((A = none ∧ S = [] ∧ c = 0) ∨ ∃ g, A = some ⟨g, 0, none⟩ ∧ v.ownBlock = some g ∧ Z ≤ g ∧ g < w.heap.size ∧ ∀ i, i < S.length → w.cell? ⟨g, 0 + i, none⟩ = some (rcell (rw_ S i))) := by
  rcases h.2 with ⟨rfl, h0⟩ | ⟨g, cap, cur, rfl, hg, hh, hn, hc, hsz, htk⟩
  · have : S = [] := List.eq_nil_of_length_eq_zero h0
    subst this
    exact ⟨none, 0, rfl, .inl ⟨rfl, rfl, rfl⟩⟩
  · refine ⟨_, cap, rfl, .inr ⟨g, rfl, rfl, hg, ?_, fun i hi => ?_⟩⟩
    · rcases Nat.lt_or_ge g w.heap.size with hlt | hge
      · exact hlt
      · rw [Array.getElem?_eq_none hge] at hh; cases hh
    · rw [Nat.zero_add, cell_of_row w g i cur 23 (0, 0) hh]
      have h2 := rcs_at hi
      rw [← htk, List.getElem?_take] at h2
      split at h2
      · simpa using h2
      · cases h2
theorem OwnS.at {w w' : World} {Z : Nat} {v : Value} {S : List Rw} (h : OwnS w Z v S) (k : ∀ g, v.ownBlock = some g → g < w.heap.size → w'.heap[g]? = w.heap[g]?) : OwnS w' Z v S := by
  obtain ⟨h1, h2⟩ := h
  refine ⟨h1, ?_⟩
  rcases h2 with h2 | ⟨g2, cap, cur, e, hg2, hh, r⟩
  · exact .inl h2
  · have hlt : g2 < w.heap.size := by
      rcases Nat.lt_or_ge g2 w.heap.size with q | q
      · exact q
      · rw [Array.getElem?_eq_none q] at hh; cases hh
    exact .inr ⟨g2, cap, cur, e, hg2, (k g2 (by rw [e]; rfl) hlt).trans hh, r⟩
theorem Own.at {w w' : World} {Z : Nat} {v : Value} {l : List Int} (h : Own w Z v l) (k : ∀ g, v.ownBlock = some g → g < w.heap.size → w'.heap[g]? = w.heap[g]?) : Own w' Z v l := by
  obtain ⟨h1, h2⟩ := h
  refine ⟨h1, ?_⟩
  rcases h2 with h2 | ⟨g2, cap, cur, e, hg2, hh, r⟩
  · exact .inl h2
  · have hlt : g2 < w.heap.size := by
      rcases Nat.lt_or_ge g2 w.heap.size with q | q
      · exact q
      · rw [Array.getElem?_eq_none q] at hh; cases hh
    exact .inr ⟨g2, cap, cur, e, hg2, (k g2 (by rw [e]; rfl) hlt).trans hh, r⟩
/-- The state while the choice is made: four blocks c, mo, ml, ms; two rows of the call's own, apart; sets that lie elsewhere. -/
structure Cn (w : World) (Z c mo ml ms : Nat) (sv rv : Value) (S : List Rw) (o : List Int) (R : List Nat) (n : Nat) (F : Int → Int) : Prop where
  blk : Blk w c 48 #[sv, .map (some mo), rv, .map (some ml), .map (some ms)]
  out : SM w mo n (mem o)
  left : LM w ml n F
  seen : SM w ms n (fun _ => false)
  rest : Own w Z rv (nl R)
  sets : OwnS w Z sv S
  row : ∀ i, i < S.length → 0 < (rw_ S i).2.2.length → ∃ b off, (rw_ S i).1 = some ⟨b, off, none⟩ ∧ b ≠ c ∧ b ≠ mo ∧ b ≠ ml ∧ b ≠ ms ∧ rv.ownBlock ≠ some b ∧ sv.ownBlock ≠ some b ∧ b < w.heap.size ∧ ∀ j, j < (rw_ S i).2.2.length → w.cell? ⟨b, off + j, none⟩ = some (.int .i64 (li (rw_ S i).2.2 j))
  apart : ∀ g, sv.ownBlock = some g → rv.ownBlock ≠ some g
  s4 : sv.ownBlock ≠ some c ∧ sv.ownBlock ≠ some mo ∧ sv.ownBlock ≠ some ml ∧ sv.ownBlock ≠ some ms
  r4 : rv.ownBlock ≠ some c ∧ rv.ownBlock ≠ some mo ∧ rv.ownBlock ≠ some ml ∧ rv.ownBlock ≠ some ms
  ne : c ≠ mo ∧ c ≠ ml ∧ c ≠ ms ∧ mo ≠ ml ∧ mo ≠ ms ∧ ml ≠ ms
  zz : Z ≤ c ∧ Z ≤ mo ∧ Z ≤ ml ∧ Z ≤ ms
section
variable {w w' : World} {Z c mo ml ms : Nat} {sv rv : Value} {S : List Rw} {o : List Int} {R : List Nat} {n : Nat} {F : Int → Int}
theorem Cn.zle (h : Cn w Z c mo ml ms sv rv S o R n F) : Z ≤ w.heap.size := by have := h.blk.lt; have := h.zz.1; omega
/-- Something lies elsewhere. -/
theorem Cn.keep (h : Cn w Z c mo ml ms sv rv S o R n F) (hs : w.heap.size ≤ w'.heap.size) (k : ∀ b, b < w.heap.size → w'.heap[b]? = w.heap[b]?) : Cn w' Z c mo ml ms sv rv S o R n F where
  blk := (k _ h.blk.lt).trans h.blk
  out := h.out.at (k _ h.out.lt)
  left := h.left.at (k _ h.left.lt)
  seen := h.seen.at (k _ h.seen.lt)
  rest := h.rest.at (fun g _ hl => k g hl)
  sets := h.sets.at (fun g _ hl => k g hl)
  row := fun i hi hp => by
    obtain ⟨b, off, e, h1, h2, h3, h4, h5, h6, h7, h8⟩ := h.row i hi hp
    exact ⟨b, off, e, h1, h2, h3, h4, h5, h6, by omega, fun j hj => (cell_at (k b h7)).trans (h8 j hj)⟩
  apart := h.apart
  s4 := h.s4
  r4 := h.r4
  ne := h.ne
  zz := h.zz
theorem Cn.below (h : Cn w Z c mo ml ms sv rv S o R n F) (hb : Below w.heap.size w w') : Cn w' Z c mo ml ms sv rv S o R n F := h.keep hb.size (fun b hb' => hb.block b hb')
theorem Cn.more (h : Cn w Z c mo ml ms sv rv S o R n F) {m : Nat} (hm : n ≤ m) : Cn w Z c mo ml ms sv rv S o R m F := ⟨h.blk, h.out.mono hm, h.left.mono hm, h.seen.mono hm, h.rest, h.sets, h.row, h.apart, h.s4, h.r4, h.ne, h.zz⟩
theorem Cn.outPut (h : Cn w Z c mo ml ms sv rv S o R n F) {v : Int} (hv : In64 v) (hn : n < maxLen) :
    ∃ w', (Instr.mapUpdate 41 (.map (some mo)) (.int .i64 v) (.bool true)).run Try.prog w = .ok () w' ∧ Cn w' Z c mo ml ms sv rv S (o ++ [v]) R (n + 1) F ∧ Below Z w w' := by
  obtain ⟨w', hr, hs, hg⟩ := h.out.put hv hn
  have k : Kp (fun b => b ≠ mo) w w' := Kp.grown hg (fun b hb => hb)
  refine ⟨w', hr, ⟨?_, ?_, ?_, ?_, ?_, ?_, ?_, h.apart, h.s4, h.r4, h.ne, h.zz⟩, (Below.refl Z w).grown hg h.zle (fun x e => by injection e with e; rw [← e]; exact h.zz.2.1)⟩
  · exact (k.2 c h.ne.1 h.blk.lt).trans h.blk
  · have e : (fun y => decide (y = v) || mem o y) = mem (o ++ [v]) := by funext y; unfold mem; simp [Bool.or_comm]
    rw [← e]; exact hs
  · exact (h.left.at (k.2 ml h.ne.2.2.2.1.symm h.left.lt)).mono (Nat.le_succ _)
  · exact (h.seen.at (k.2 ms h.ne.2.2.2.2.1.symm h.seen.lt)).mono (Nat.le_succ _)
  · exact h.rest.at (fun g e hl => k.2 g (fun e2 => h.r4.2.1 (e2 ▸ e)) hl)
  · exact h.sets.at (fun g e hl => k.2 g (fun e2 => h.s4.2.1 (e2 ▸ e)) hl)
  · intro i hi hp
    obtain ⟨b, off, e, h1, h2, h3, h4, h5, h6, h7, h8⟩ := h.row i hi hp
    exact ⟨b, off, e, h1, h2, h3, h4, h5, h6, Nat.lt_of_lt_of_le h7 k.1, fun j hj => (cell_at (k.2 b h2 h7)).trans (h8 j hj)⟩
theorem Cn.leftPut (h : Cn w Z c mo ml ms sv rv S o R n F) {v x : Int} (hv : In64 v) (hx : In64 x) (hn : n < maxLen) :
    ∃ w', (Instr.mapUpdate 46 (.map (some ml)) (.int .i64 v) (.int .i64 x)).run Try.prog w = .ok () w' ∧ Cn w' Z c mo ml ms sv rv S o R (n + 1) (setF F v x) ∧ Below Z w w' ∧ Kp (fun b => b ≠ ml) w w' := by
  obtain ⟨w', hr, hs, hg⟩ := h.left.put hv hx hn
  have k : Kp (fun b => b ≠ ml) w w' := Kp.grown hg (fun b hb => hb)
  refine ⟨w', hr, ⟨?_, ?_, hs, ?_, ?_, ?_, ?_, h.apart, h.s4, h.r4, h.ne, h.zz⟩, (Below.refl Z w).grown hg h.zle (fun x e => by injection e with e; rw [← e]; exact h.zz.2.2.1), k⟩
  · exact (k.2 c h.ne.2.1 h.blk.lt).trans h.blk
  · exact (h.out.at (k.2 mo h.ne.2.2.2.1 h.out.lt)).mono (Nat.le_succ _)
  · exact (h.seen.at (k.2 ms h.ne.2.2.2.2.2.symm h.seen.lt)).mono (Nat.le_succ _)
  · exact h.rest.at (fun g e hl => k.2 g (fun e2 => h.r4.2.2.1 (e2 ▸ e)) hl)
  · exact h.sets.at (fun g e hl => k.2 g (fun e2 => h.s4.2.2.1 (e2 ▸ e)) hl)
  · intro i hi hp
    obtain ⟨b, off, e, h1, h2, h3, h4, h5, h6, h7, h8⟩ := h.row i hi hp
    exact ⟨b, off, e, h1, h2, h3, h4, h5, h6, Nat.lt_of_lt_of_le h7 k.1, fun j hj => (cell_at (k.2 b h3 h7)).trans (h8 j hj)⟩
/-- One set more in the row of sets: what the append leaves, with the store. -/
theorem Cn.setApp (h : Cn w Z c mo ml ms sv rv S o R n F) {x : Obj} {v' : Value} {r : Rw} (hO : w'.ownsRow Z 23 1 v' (S.length + 1) (rcs S ++ [rcell r])) (hg : (w.alloc x).grownBy w' sv.ownBlock) (hat : v'.ownBlock = sv.ownBlock ∨ v'.ownBlock = some (w.alloc x).heap.size)
    (hr : 0 < r.2.2.length → ∃ b off, r.1 = some ⟨b, off, none⟩ ∧ b ≠ c ∧ b ≠ mo ∧ b ≠ ml ∧ b ≠ ms ∧ rv.ownBlock ≠ some b ∧ sv.ownBlock ≠ some b ∧ b < w.heap.size ∧ ∀ j, j < r.2.2.length → w.cell? ⟨b, off + j, none⟩ = some (.int .i64 (li r.2.2 j))) :
    Cn (w'.setCell ⟨c, 0, none⟩ v') Z c mo ml ms v' rv (S ++ [r]) o R n F ∧ Below Z w (w'.setCell ⟨c, 0, none⟩ v') ∧ Blk w' c 48 #[sv, .map (some mo), rv, .map (some ml), .map (some ms)] := by
  have hsz : (w.alloc x).heap.size = w.heap.size + 1 := by simp
  have hk1 : ∀ b, sv.ownBlock ≠ some b → b < w.heap.size → w'.heap[b]? = w.heap[b]? := fun b hb hl => by
    have e := hg.block b (by rw [hsz]; omega) (fun e => hb e.symm)
    rw [e]; exact ((Below.refl w.heap.size w).alloc (Nat.le_refl _) x).block b hl
  have hs1 : w.heap.size + 1 ≤ w'.heap.size := by rw [← hsz]; exact hg.size
  have k2 : Kp (fun b => b ≠ c) w' (w'.setCell ⟨c, 0, none⟩ v') := Kp.set (fun b hb => hb)
  have hk : ∀ b, sv.ownBlock ≠ some b → b ≠ c → b < w.heap.size → (w'.setCell ⟨c, 0, none⟩ v').heap[b]? = w.heap[b]? := fun b h1 h2 h3 => (k2.2 b h2 (by omega)).trans (hk1 b h1 h3)
  have hs2 : w.heap.size ≤ (w'.setCell ⟨c, 0, none⟩ v').heap.size := Nat.le_trans (by omega) k2.1
  have hnew : ∀ g, v'.ownBlock = some g → sv.ownBlock = some g ∨ g = w.heap.size + 1 := fun g hg' => by
    rcases hat with q | q
    · exact .inl (q ▸ hg')
    · rw [q, hsz] at hg'; injection hg' with hg'; exact .inr hg'.symm
  have hno : ∀ b, sv.ownBlock ≠ some b → b < w.heap.size → v'.ownBlock ≠ some b := fun b h1 h2 e => by
    rcases hnew b e with q | q
    · exact h1 q
    · omega
  refine ⟨⟨?_, ?_, ?_, ?_, ?_, ?_, ?_, ?_, ?_, h.r4, h.ne, h.zz⟩, ?_, (hk1 c h.s4.1 h.blk.lt).trans h.blk⟩
  · have h1 : Blk w' c 48 #[sv, .map (some mo), rv, .map (some ml), .map (some ms)] := (hk1 c h.s4.1 h.blk.lt).trans h.blk
    exact h1.set_ 0 _
  · exact h.out.at (hk mo h.s4.2.1 h.ne.1.symm h.out.lt)
  · exact h.left.at (hk ml h.s4.2.2.1 h.ne.2.1.symm h.left.lt)
  · exact h.seen.at (hk ms h.s4.2.2.2 h.ne.2.2.1.symm h.seen.lt)
  · exact h.rest.at (fun g e hl => hk g (fun e2 => h.apart g e2 e) (fun e2 => h.r4.1 (e2 ▸ e)) hl)
  · have h1 : OwnS w' Z v' (S ++ [r]) := by
      have hO2 := hO
      unfold OwnS rcs
      rw [List.length_append, List.length_singleton, List.map_append]
      exact hO2
    exact h1.at (fun g e hl => k2.2 g (fun e2 => hno c h.s4.1 h.blk.lt (e2 ▸ e)) hl)
  · intro i hi hp
    rw [List.length_append, List.length_singleton] at hi
    by_cases hil : i < S.length
    · rw [rw_app_lt hil] at hp ⊢
      obtain ⟨b, off, e, h1, h2, h3, h4, h5, h6, h7, h8⟩ := h.row i hil hp
      exact ⟨b, off, e, h1, h2, h3, h4, h5, hno b h6 h7, by omega, fun j hj => (cell_at (hk b h6 h1 h7)).trans (h8 j hj)⟩
    · obtain rfl : i = S.length := by omega
      rw [rw_app_eq] at hp ⊢
      obtain ⟨b, off, e, h1, h2, h3, h4, h5, h6, h7, h8⟩ := hr hp
      exact ⟨b, off, e, h1, h2, h3, h4, h5, hno b h6 h7, by omega, fun j hj => (cell_at (hk b h6 h1 h7)).trans (h8 j hj)⟩
  · intro g hg' e
    rcases hnew g hg' with q | q
    · exact h.apart g q e
    · have := h.rest.lt g e; omega
  · exact ⟨hno c h.s4.1 h.blk.lt, hno mo h.s4.2.1 h.out.lt, hno ml h.s4.2.2.1 h.left.lt, hno ms h.s4.2.2.2 h.seen.lt⟩
  · have b1 : Below Z w w' := ((Below.refl Z w).alloc h.zle x).grown hg (by have := h.zle; omega) (fun k e => by
      rcases h.sets.2 with ⟨he, _⟩ | ⟨g, _, _, he, hz, _⟩
      · rw [he] at e; simp [Value.ownBlock] at e
      · rw [he] at e; simp [Value.ownBlock] at e; omega)
    exact b1.setCell (p := ⟨c, 0, none⟩) h.zz.1 _
/-- One index more in the row of those left. -/
theorem Cn.restApp (h : Cn w Z c mo ml ms sv rv S o R n F) {x : Obj} {v' : Value} {k0 : Nat} (hO : w'.ownsRow Z 3 1 v' ((nl R).length + 1) ((nl R).map (Value.int .i64) ++ [.int .i64 (k0 : Int)])) (hg : (w.alloc x).grownBy w' rv.ownBlock) (hat : v'.ownBlock = rv.ownBlock ∨ v'.ownBlock = some (w.alloc x).heap.size) :
    Cn (w'.setCell ⟨c, 2, none⟩ v') Z c mo ml ms sv v' S o (R ++ [k0]) n F ∧ Below Z w (w'.setCell ⟨c, 2, none⟩ v') ∧ Blk w' c 48 #[sv, .map (some mo), rv, .map (some ml), .map (some ms)] := by
  have hsz : (w.alloc x).heap.size = w.heap.size + 1 := by simp
  have hk1 : ∀ b, rv.ownBlock ≠ some b → b < w.heap.size → w'.heap[b]? = w.heap[b]? := fun b hb hl => by
    have e := hg.block b (by rw [hsz]; omega) (fun e => hb e.symm)
    rw [e]; exact ((Below.refl w.heap.size w).alloc (Nat.le_refl _) x).block b hl
  have hs1 : w.heap.size + 1 ≤ w'.heap.size := by rw [← hsz]; exact hg.size
  have k2 : Kp (fun b => b ≠ c) w' (w'.setCell ⟨c, 2, none⟩ v') := Kp.set (fun b hb => hb)
  have hk : ∀ b, rv.ownBlock ≠ some b → b ≠ c → b < w.heap.size → (w'.setCell ⟨c, 2, none⟩ v').heap[b]? = w.heap[b]? := fun b h1 h2 h3 => (k2.2 b h2 (by omega)).trans (hk1 b h1 h3)
  have hs2 : w.heap.size ≤ (w'.setCell ⟨c, 2, none⟩ v').heap.size := Nat.le_trans (by omega) k2.1
  have hnew : ∀ g, v'.ownBlock = some g → rv.ownBlock = some g ∨ g = w.heap.size + 1 := fun g hg' => by
    rcases hat with q | q
    · exact .inl (q ▸ hg')
    · rw [q, hsz] at hg'; injection hg' with hg'; exact .inr hg'.symm
  have hno : ∀ b, rv.ownBlock ≠ some b → b < w.heap.size → v'.ownBlock ≠ some b := fun b h1 h2 e => by
    rcases hnew b e with q | q
    · exact h1 q
    · omega
  have hslt : ∀ g, sv.ownBlock = some g → g < w.heap.size := fun g e => by
    rcases h.sets.2 with ⟨he, _⟩ | ⟨g2, _, _, he, hz, hh, _⟩
    · rw [he] at e; simp [Value.ownBlock] at e
    · rw [he] at e; simp [Value.ownBlock] at e
      subst e
      rcases Nat.lt_or_ge g2 w.heap.size with q | q
      · exact q
      · rw [Array.getElem?_eq_none q] at hh; cases hh
  refine ⟨⟨?_, ?_, ?_, ?_, ?_, ?_, ?_, ?_, h.s4, ?_, h.ne, h.zz⟩, ?_, (hk1 c h.r4.1 h.blk.lt).trans h.blk⟩
  · have h1 : Blk w' c 48 #[sv, .map (some mo), rv, .map (some ml), .map (some ms)] := (hk1 c h.r4.1 h.blk.lt).trans h.blk
    exact h1.set_ 2 _
  · exact h.out.at (hk mo h.r4.2.1 h.ne.1.symm h.out.lt)
  · exact h.left.at (hk ml h.r4.2.2.1 h.ne.2.1.symm h.left.lt)
  · exact h.seen.at (hk ms h.r4.2.2.2 h.ne.2.2.1.symm h.seen.lt)
  · have h1 : Own w' Z v' (nl (R ++ [k0])) := by
      have e : nl (R ++ [k0]) = nl R ++ [(k0 : Int)] := by unfold nl; simp
      rw [e]; exact Own.push hO
    exact h1.at (fun g e hl => k2.2 g (fun e2 => hno c h.r4.1 h.blk.lt (e2 ▸ e)) hl)
  · exact h.sets.at (fun g e hl => hk g (h.apart g e) (fun e2 => h.s4.1 (e2 ▸ e)) hl)
  · intro i hi hp
    obtain ⟨b, off, e, h1, h2, h3, h4, h5, h6, h7, h8⟩ := h.row i hi hp
    exact ⟨b, off, e, h1, h2, h3, h4, hno b h5 h7, h6, by omega, fun j hj => (cell_at (hk b h5 h1 h7)).trans (h8 j hj)⟩
  · intro g hg' e
    exact hno g (h.apart g hg') (hslt g hg') e
  · exact ⟨hno c h.r4.1 h.blk.lt, hno mo h.r4.2.1 h.out.lt, hno ml h.r4.2.2.1 h.left.lt, hno ms h.r4.2.2.2 h.seen.lt⟩
  · have b1 : Below Z w w' := ((Below.refl Z w).alloc h.zle x).grown hg (by have := h.zle; omega) (fun k e => h.rest.block k e)
    exact b1.setCell (p := ⟨c, 2, none⟩) h.zz.1 _
/-- The choice is made (w2blk). -/
theorem Cn.ch (h : Cn w Z c mo ml ms sv rv S o R n F) : ∃ K : Kc, K.c = c ∧ Ch w Z K S o R n F (fun _ => false) := by
  obtain ⟨A, cs, hsv, hs⟩ := h.sets.form
  rcases h.rest.pre with ⟨hrv, hR⟩ | ⟨g, cap, hrv, hg, hcap, hcm, hp⟩
  · have hR2 : R = [] := by unfold nl at hR; simpa using hR
    refine ⟨⟨c, mo, ml, ms, w.heap.size, A, cs, rv⟩, rfl, ⟨by rw [← hsv]; exact h.blk, h.out, h.left, h.seen, .inl ⟨hrv, hR2⟩, ⟨fun hl => ?_, fun i hi hp => ?_⟩, ?_⟩⟩
    · rcases hs with ⟨_, h0, _⟩ | ⟨g, e, eo, hz, hl2, hc⟩
      · rw [h0] at hl; simp at hl
      · exact ⟨g, 0, e, ⟨fun e2 => h.s4.1 (eo.trans (congrArg some e2)), fun e2 => h.s4.2.1 (eo.trans (congrArg some e2)), fun e2 => h.s4.2.2.1 (eo.trans (congrArg some e2)), fun e2 => h.s4.2.2.2 (eo.trans (congrArg some e2)), by show g ≠ w.heap.size; omega⟩, hl2, hc⟩
    · obtain ⟨b, off, e, h1, h2, h3, h4, h5, h6, h7, h8⟩ := h.row i hi hp
      exact ⟨b, off, e, ⟨h1, h2, h3, h4, by show b ≠ w.heap.size; omega⟩, h7, h8⟩
    · have := h.blk.lt; have := h.out.lt; have := h.left.lt; have := h.seen.lt
      exact ⟨h.ne.1, h.ne.2.1, h.ne.2.2.1, by show c ≠ w.heap.size; omega, h.ne.2.2.2.1, h.ne.2.2.2.2.1, by show mo ≠ w.heap.size; omega, h.ne.2.2.2.2.2, by show ml ≠ w.heap.size; omega, by show ms ≠ w.heap.size; omega, h.zz.1, h.zz.2.1, h.zz.2.2.1, h.zz.2.2.2, h.zle⟩
  · rw [nl_len] at hrv hcap
    have hob : rv.ownBlock = some g := by rw [hrv]; rfl
    have hq : ∀ x, rv.ownBlock ≠ some x → x ≠ g := fun x hx e => hx (e ▸ hob)
    refine ⟨⟨c, mo, ml, ms, g, A, cs, rv⟩, rfl, ⟨by rw [← hsv]; exact h.blk, h.out, h.left, h.seen, .inr ⟨cap, hrv, hcap, hcm, hp⟩, ⟨fun hl => ?_, fun i hi hp => ?_⟩, ?_⟩⟩
    · rcases hs with ⟨_, h0, _⟩ | ⟨g2, e, eo, hz, hl2, hc⟩
      · rw [h0] at hl; simp at hl
      · exact ⟨g2, 0, e, ⟨fun e2 => h.s4.1 (eo.trans (congrArg some e2)), fun e2 => h.s4.2.1 (eo.trans (congrArg some e2)), fun e2 => h.s4.2.2.1 (eo.trans (congrArg some e2)), fun e2 => h.s4.2.2.2 (eo.trans (congrArg some e2)), hq g2 (h.apart g2 eo)⟩, hl2, hc⟩
    · obtain ⟨b, off, e, h1, h2, h3, h4, h5, h6, h7, h8⟩ := h.row i hi hp
      exact ⟨b, off, e, ⟨h1, h2, h3, h4, hq b h5⟩, h7, h8⟩
    · exact ⟨h.ne.1, h.ne.2.1, h.ne.2.2.1, hq c h.r4.1, h.ne.2.2.2.1, h.ne.2.2.2.2.1, hq mo h.r4.2.1, h.ne.2.2.2.2.2, hq ml h.r4.2.2.1, hq ms h.r4.2.2.2, h.zz.1, h.zz.2.1, h.zz.2.2.1, h.zz.2.2.2, hg⟩
end
end Go.Proofs.Ytjohdkcgodaeiaa
