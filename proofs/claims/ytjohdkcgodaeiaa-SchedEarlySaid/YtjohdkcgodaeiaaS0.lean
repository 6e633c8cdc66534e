/- Rows of steps; the plan as a list; layer 42 (sched). -/
import Derived.Test.YtjohdkcgodaeiaaP4
import Derived.Test.YtjohdkcgodaeiaaR3
namespace Go.Proofs.Ytjohdkcgodaeiaa
open Go.RowKit

/-- A step: its part, and the row of its variables. -/
abbrev St := Int × Rw
def stR (s : St) : List Value := [.int .i64 s.1, rcell s.2]
def stC (T : List St) : List Value := T.flatMap stR
def stAt (T : List St) (k : Nat) : St := T.getD k (0, none, 0, [])
def stK (s : St) : Int × List Int := (s.1, s.2.2.2)
theorem stC_len (T : List St) : (stC T).length = T.length * 2 := by
  unfold stC
  induction T with
  | nil => rfl
  | cons x r ih =>
    have hl : (stR x).length = 2 := rfl
    rw [List.flatMap_cons, List.length_append, ih, hl, List.length_cons]; omega
theorem stC_at : ∀ (T : List St) (k j : Nat), k < T.length → j < 2 → (stC T)[k * 2 + j]? = (stR (stAt T k))[j]?
  | [], _, _, h, _ => by simp at h
  | t :: r, 0, j, _, hj => by
    have hl : (stR t).length = 2 := rfl
    unfold stC
    rw [List.flatMap_cons, Nat.zero_mul, Nat.zero_add, List.getElem?_append_left (by rw [hl]; exact hj)]
    rfl
  | t :: r, k + 1, j, h, hj => by
    have hl : (stR t).length = 2 := rfl
    have ih := stC_at r k j (by simpa using h) hj
    unfold stC at ih ⊢
    rw [List.flatMap_cons, List.getElem?_append_right (by rw [hl]; omega), hl, show (k + 1) * 2 + j - 2 = k * 2 + j by omega]
    rw [ih]
    rfl
theorem st_app_lt {T : List St} {s : St} {i : Nat} (h : i < T.length) : stAt (T ++ [s]) i = stAt T i := by unfold stAt; simp [List.getD, List.getElem?_append_left h]
theorem st_app_eq (T : List St) (s : St) : stAt (T ++ [s]) T.length = s := by unfold stAt; simp [List.getD]
/-- The slice at A reads as the steps T. -/
def StP (w : World) (A : Option Addr) (T : List St) : Prop :=
  (0 < T.length → ∃ b off, A = some ⟨b, off, none⟩ ∧ b < w.heap.size ∧ ∀ k, k < T.length → w.cell? ⟨b, off + k * 2, none⟩ = some (.int .i64 (stAt T k).1) ∧ w.cell? ⟨b, off + k * 2 + 1, none⟩ = some (rcell (stAt T k).2)) ∧
  ∀ k, k < T.length → RI w w.heap.size (stAt T k).2.1 (stAt T k).2.2.2
theorem StP.step {w w' : World} {A : Option Addr} {T : List St} (h : StP w A T) (hb : Below w.heap.size w w') : StP w' A T := by
  refine ⟨fun hl => ?_, fun k hk => (h.2 k hk).step hb⟩
  obtain ⟨b, off, e, hB, hc⟩ := h.1 hl
  exact ⟨b, off, e, Nat.lt_of_lt_of_le hB hb.size, fun k hk => ⟨(hb.cell (p := ⟨b, off + k * 2, none⟩) hB).trans (hc k hk).1, (hb.cell (p := ⟨b, off + k * 2 + 1, none⟩) hB).trans (hc k hk).2⟩⟩
/-- .. in a row of the call's own. -/
structure OwnT (t : TypeId) (w : World) (Z : Nat) (v : Value) (T : List St) : Prop where
  row : w.ownsRow Z t 2 v T.length (stC T)
  each : ∀ i, i < T.length → 0 < (stAt T i).2.2.2.length → ∃ b off, (stAt T i).2.1 = some ⟨b, off, none⟩ ∧ Z ≤ b ∧ b < w.heap.size ∧ v.ownBlock ≠ some b ∧ ∀ j, j < (stAt T i).2.2.2.length → w.cell? ⟨b, off + j, none⟩ = some (.int .i64 (li (stAt T i).2.2.2 j))
theorem OwnT.nil (t : TypeId) (w : World) (Z : Nat) : OwnT t w Z (.slice none 0 0) [] := ⟨World.ownsRow_nil _ _ _ _, fun i hi => absurd hi (by simp)⟩
theorem OwnT.lt {t : TypeId} {w : World} {Z : Nat} {v : Value} {T : List St} (h : OwnT t w Z v T) (k : Nat) (e : v.ownBlock = some k) : Z ≤ k ∧ k < w.heap.size := by
  rcases h.row.2 with ⟨rfl, _⟩ | ⟨g, cap, cur, rfl, hg, hh, _⟩
  · simp [Value.ownBlock] at e
  · simp [Value.ownBlock] at e
    subst e
    rcases Nat.lt_or_ge g w.heap.size with q | q
    · exact ⟨hg, q⟩
    · rw [Array.getElem?_eq_none q] at hh; cases hh
theorem OwnT.kp {t : TypeId} {w w' : World} {Z : Nat} {v : Value} {T : List St} (h : OwnT t w Z v T) (k : Kp (fun b => Z ≤ b) w w') : OwnT t w' Z v T := by
  refine ⟨?_, fun i hi hl => ?_⟩
  · obtain ⟨h1, h2⟩ := h.row
    refine ⟨h1, ?_⟩
    rcases h2 with h2 | ⟨g2, cap, cur, e, hg2, hh, r⟩
    · exact .inl h2
    · have hlt : g2 < w.heap.size := by
        rcases Nat.lt_or_ge g2 w.heap.size with q | q
        · exact q
        · rw [Array.getElem?_eq_none q] at hh; cases hh
      exact .inr ⟨g2, cap, cur, e, hg2, (k.2 g2 hg2 hlt).trans hh, r⟩
  · obtain ⟨b, off, e, hz, hb, hn, hc⟩ := h.each i hi hl
    exact ⟨b, off, e, hz, Nat.lt_of_lt_of_le hb k.1, hn, fun j hj => (cell_at (k.2 b hz hb)).trans (hc j hj)⟩
theorem OwnT.app {t : TypeId} {w w' : World} {Z : Nat} {v v' : Value} {T : List St} {x : Obj} {s : St} (h : OwnT t w Z v T) (hZ : Z ≤ w.heap.size) (hO : w'.ownsRow Z t 2 v' (T.length + 1) (stC T ++ [.int .i64 s.1, rcell s.2])) (hg : (w.alloc x).grownBy w' v.ownBlock)
    (hat : v'.ownBlock = v.ownBlock ∨ v'.ownBlock = some (w.alloc x).heap.size)
    (hr : 0 < s.2.2.2.length → ∃ b off, s.2.1 = some ⟨b, off, none⟩ ∧ Z ≤ b ∧ b < w.heap.size ∧ v.ownBlock ≠ some b ∧ ∀ j, j < s.2.2.2.length → w.cell? ⟨b, off + j, none⟩ = some (.int .i64 (li s.2.2.2 j))) :
    OwnT t w' Z v' (T ++ [s]) ∧ Below Z w w' := by
  have hsz : (w.alloc x).heap.size = w.heap.size + 1 := by simp
  have hk1 : ∀ b, v.ownBlock ≠ some b → b < w.heap.size → w'.heap[b]? = w.heap[b]? := fun b hb hl => by
    have e := hg.block b (by rw [hsz]; omega) (fun e => hb e.symm)
    rw [e]; exact ((Below.refl w.heap.size w).alloc (Nat.le_refl _) x).block b hl
  have hs1 : w.heap.size + 1 ≤ w'.heap.size := by rw [← hsz]; exact hg.size
  have hno : ∀ b, v.ownBlock ≠ some b → b < w.heap.size → v'.ownBlock ≠ some b := fun b h1 h2 e => by
    rcases hat with q | q
    · rw [q] at e; exact h1 e
    · rw [q, hsz] at e; injection e with e; omega
  refine ⟨⟨?_, fun i hi hl => ?_⟩, ((Below.refl Z w).alloc hZ x).grown hg (by omega) (fun k e => (h.lt k e).1)⟩
  · rw [List.length_append, List.length_singleton]
    have e : stC (T ++ [s]) = stC T ++ [.int .i64 s.1, rcell s.2] := by unfold stC; rw [List.flatMap_append]; rfl
    rw [e]; exact hO
  · rw [List.length_append, List.length_singleton] at hi
    by_cases hil : i < T.length
    · rw [st_app_lt hil] at hl ⊢
      obtain ⟨b, off, e, hz, hb, hn, hc⟩ := h.each i hil hl
      exact ⟨b, off, e, hz, by omega, hno b hn hb, fun j hj => (cell_at (hk1 b hn hb)).trans (hc j hj)⟩
    · obtain rfl : i = T.length := by omega
      rw [st_app_eq] at hl ⊢
      obtain ⟨b, off, e, hz, hb, hn, hc⟩ := hr hl
      exact ⟨b, off, e, hz, by omega, hno b hn hb, fun j hj => (cell_at (hk1 b hn hb)).trans (hc j hj)⟩
theorem OwnT.st {t : TypeId} {w : World} {Z : Nat} {v : Value} {T : List St} (h : OwnT t w Z v T) : ∃ A c, v = .slice A T.length c ∧ StP w A T := by
  have hr : ∀ k, k < T.length → RI w w.heap.size (stAt T k).2.1 (stAt T k).2.2.2 := fun k hk hl => by
    obtain ⟨b, off, e, hz, hb, hn, hc⟩ := h.each k hk hl
    exact ⟨b, off, e, hb, hc⟩
  rcases h.row.2 with ⟨rfl, h0⟩ | ⟨g, cap, cur, rfl, hg, hh, hn, hc, hsz, htk⟩
  · exact ⟨none, 0, by rw [h0], fun hp => by omega, hr⟩
  · refine ⟨_, cap, rfl, fun hp => ⟨g, 0, rfl, ?_, fun k hk => ?_⟩, hr⟩
    · rcases Nat.lt_or_ge g w.heap.size with hlt | hge
      · exact hlt
      · rw [Array.getElem?_eq_none hge] at hh; cases hh
    · have key : ∀ j, j < 2 → w.cell? ⟨g, k * 2 + j, none⟩ = (stR (stAt T k))[j]? := fun j hj => by
        rw [cell_of_row w g (k * 2 + j) cur t (0, 0) hh, ← stC_at T k j hk hj, ← htk, List.getElem?_take, if_pos (by have := stC_len T; omega), Array.getElem?_toList]
      rw [Nat.zero_add]
      exact ⟨key 0 (by omega), key 1 (by omega)⟩
/-- The candidates, by the sets of the parts. -/
def cdT (T : Nat → List Int) (o : List Int) (F : Int → Int) (G : Int → Bool) (k : Nat) : Cd := ⟨(k : Int), ((((T k).filter (alQ o F)).length : Nat) : Int), ((((T k).filter fun v => !G v).length : Nat) : Int)⟩
def bestOf (T : Nat → List Int) (o : List Int) (F : Int → Int) (G : Int → Bool) (R : List Nat) : Int := match R.map (cdT T o F G) with
  | [] => 0
  | c :: cs => (bst c cs).p
def atOf (T : Nat → List Int) (o : List Int) (F : Int → Int) (G : Int → Bool) (R : List Nat) : Nat := R.findIdx fun k => (((k : Nat) : Int) == bestOf T o F G R)
/-- setL, to be reckoned. -/
def insI (acc : List Int) (x : Int) : List Int := if x ∈ acc then acc else (acc.filter fun y => decide (y < x)) ++ [x] ++ (acc.filter fun y => !decide (y < x))
def sL (l : List Int) : List Int := l.foldl insI []
theorem setL_sL (l : List Int) : setL l = sL l := by
  obtain ⟨r, hr⟩ : ∃ r, l.reverse = r := ⟨_, rfl⟩
  induction r generalizing l with
  | nil =>
    have : l = [] := by simpa using hr
    subst this; exact set_nil
  | cons x r ih =>
    have e : l = r.reverse ++ [x] := by
      have := congrArg List.reverse hr
      simpa using this
    subst e
    rw [set_snoc]
    unfold sL
    rw [List.foldl_append, List.foldl_cons, List.foldl_nil]
    have h := ih r.reverse (by simp)
    unfold sL at h
    rw [← h]
    unfold insI
    rfl
/-- The plan from where R are left. -/
def planT (T : Nat → List Int) (o : List Int) : Nat → List Nat → (Int → Int) → (Int → Bool) → List Int → List (Int × List Int)
  | 0, _, _, _, _ => []
  | n + 1, R, F, G, fr => if R.length = 0 then [] else
      (((R.getD (atOf T o F G R) 0 : Nat) : Int), sL (fr ++ (T (R.getD (atOf T o F G R) 0)).filter (tkP o F))) ::
        planT T o n (R.eraseIdx (atOf T o F G R)) (tkF (T (R.getD (atOf T o F G R) 0)) F) (tkG (T (R.getD (atOf T o F G R) 0)) G) []
theorem bst_mem (c : Cd) (cs : List Cd) : bst c cs ∈ c :: cs := by
  induction cs generalizing c with
  | nil => simp [bst]
  | cons x r ih =>
    rw [bst]
    split
    · exact List.mem_cons_of_mem _ (ih x)
    · have := ih c
      rcases List.mem_cons.1 this with h | h
      · rw [h]; exact List.mem_cons_self ..
      · exact List.mem_cons_of_mem _ (List.mem_cons_of_mem _ h)
theorem at_ok {T : Nat → List Int} {o : List Int} {F : Int → Int} {G : Int → Bool} {R : List Nat} (h : 0 < R.length) : atOf T o F G R < R.length ∧ ((R.getD (atOf T o F G R) 0 : Nat) : Int) = bestOf T o F G R := by
  obtain ⟨c, cs, hC⟩ : ∃ c cs, R.map (cdT T o F G) = c :: cs := by
    cases e : R.map (cdT T o F G) with
    | nil => have := congrArg List.length e; simp at this; rw [this] at h; simp at h
    | cons c cs => exact ⟨c, cs, rfl⟩
  have hb : bestOf T o F G R = (bst c cs).p := by unfold bestOf; rw [hC]
  have hm := bst_mem c cs
  rw [← hC, List.mem_map] at hm
  obtain ⟨k, hk, hkc⟩ := hm
  have hkp : ((k : Nat) : Int) = bestOf T o F G R := by rw [hb, ← hkc]; rfl
  have hlt : atOf T o F G R < R.length := List.findIdx_lt_length_of_exists ⟨k, hk, by simp [hkp]⟩
  refine ⟨hlt, ?_⟩
  have h2 := List.findIdx_getElem (p := fun k => (((k : Nat) : Int) == bestOf T o F G R)) (xs := R) (w := hlt)
  have h3 : R.getD (atOf T o F G R) 0 = R[atOf T o F G R] := by simp [List.getD, List.getElem?_eq_getElem hlt]
  rw [h3]
  simp only [beq_iff_eq] at h2
  exact h2
theorem cdL_T {S : List Rw} {T : Nat → List Int} {o : List Int} {F : Int → Int} {G : Int → Bool} {R : List Nat} (h : ∀ k ∈ R, (rw_ S k).2.2 = T k) : cdL S o F G R = R.map (cdT T o F G) := by
  unfold cdL
  apply List.map_congr_left
  intro k hk
  unfold cdOf cdT
  rw [h k hk]
end Go.Proofs.Ytjohdkcgodaeiaa
