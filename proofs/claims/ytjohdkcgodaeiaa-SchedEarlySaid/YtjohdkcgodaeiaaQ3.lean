/- The variables that are live: as lists, and where the program keeps them; layer 42 (sched). -/
import Derived.Test.YtjohdkcgodaeiaaQ2
namespace Go.Proofs.Ytjohdkcgodaeiaa
open Go.RowKit

theorem memT {l : List Int} {v : Int} : mem l v = true ↔ v ∈ l := by unfold mem; simp
theorem memF {l : List Int} {v : Int} : mem l v = false ↔ v ∉ l := by unfold mem; simp
theorem nodup_len {a b : List Int} (ha : a.Nodup) (hb : b.Nodup) (h : ∀ x, x ∈ a ↔ x ∈ b) : a.length = b.length := ((List.perm_ext_iff_of_nodup ha hb).2 h).length_eq
def partsU (rows : List Rw) (K : List (Int × List Int)) (m : Nat) : List Int := (K.take m).flatMap fun x => vrs rows x.1
def outsU (K : List (Int × List Int)) (m : Nat) : List Int := (K.take m).flatMap (·.2)
def liveL (rows : List Rw) (K : List (Int × List Int)) (m : Nat) : List Int := setL ((partsU rows K m).filter fun v => !mem (outsU K m) v)
def widL (rows : List Rw) (K : List (Int × List Int)) (i : Nat) : Nat := (setL (liveL rows K i ++ vrs rows (kAt K i).1)).length
def wl (rows : List Rw) (K : List (Int × List Int)) (k : Nat) : List Int := (List.range k).map fun i => ((widL rows K i : Nat) : Int)
def ll (rows : List Rw) (K : List (Int × List Int)) (k : Nat) : List Int := (List.range k).map fun i => (((liveL rows K (i + 1)).length : Nat) : Int)
section
variable {rows : List Rw} {K : List (Int × List Int)} {m : Nat}
theorem take_kAt (h : m < K.length) : K.take (m + 1) = K.take m ++ [kAt K m] := by
  rw [List.take_succ_eq_append_getElem h]
  unfold kAt
  simp [List.getD, List.getElem?_eq_getElem h]
theorem partsU_succ (h : m < K.length) : partsU rows K (m + 1) = partsU rows K m ++ vrs rows (kAt K m).1 := by
  unfold partsU
  rw [take_kAt h, List.flatMap_append]; simp
theorem outsU_succ (h : m < K.length) : outsU K (m + 1) = outsU K m ++ (kAt K m).2 := by
  unfold outsU
  rw [take_kAt h, List.flatMap_append]; simp
theorem live_mem {v : Int} : v ∈ liveL rows K m ↔ v ∈ partsU rows K m ∧ v ∉ outsU K m := by
  unfold liveL
  rw [set_mem, List.mem_filter, Bool.not_eq_true', memF]
theorem live_inc : Inc (liveL rows K m) := set_inc _
theorem live_succ (h : m < K.length) {v : Int} : v ∈ liveL rows K (m + 1) ↔ (v ∈ liveL rows K m ∨ (v ∈ vrs rows (kAt K m).1 ∧ v ∉ outsU K m)) ∧ v ∉ (kAt K m).2 := by
  rw [live_mem, live_mem, partsU_succ h, outsU_succ h, List.mem_append, List.mem_append]
  constructor
  · rintro ⟨h1 | h1, h2⟩
    · exact ⟨.inl ⟨h1, fun q => h2 (.inl q)⟩, fun q => h2 (.inr q)⟩
    · exact ⟨.inr ⟨h1, fun q => h2 (.inl q)⟩, fun q => h2 (.inr q)⟩
  · rintro ⟨⟨h1, h2⟩ | ⟨h1, h2⟩, h3⟩
    · exact ⟨.inl h1, fun q => q.elim h2 h3⟩
    · exact ⟨.inr h1, fun q => q.elim h2 h3⟩
theorem live_zero : liveL rows K 0 = [] := by
  unfold liveL partsU
  simp [set_nil]
theorem vrs_inc (rows : List Rw) (p : Int) : Inc (vrs rows p) := by
  unfold vrs
  split
  · exact set_inc _
  · exact List.Pairwise.nil
theorem wid_eq {Kn : List Int} (hn : Kn.Nodup) (hk : ∀ v, v ∈ Kn ↔ v ∈ liveL rows K m) : Kn.length + ((vrs rows (kAt K m).1).filter fun v => !mem Kn v).length = widL rows K m := by
  unfold widL
  rw [← List.length_append]
  refine nodup_len ?_ (inc_nodup (set_inc _)) (fun x => ?_)
  · rw [List.nodup_append]
    refine ⟨hn, (inc_nodup (vrs_inc rows _)).filter _, fun a ha b hb => ?_⟩
    rw [List.mem_filter, Bool.not_eq_true', memF] at hb
    exact fun e => hb.2 (e ▸ ha)
  · rw [set_mem, List.mem_append, List.mem_append, List.mem_filter, Bool.not_eq_true', memF, ← hk]
    constructor
    · rintro (h | ⟨h, _⟩)
      · exact .inl h
      · exact .inr h
    · rintro (h | h)
      · exact .inl h
      · by_cases q : x ∈ Kn
        · exact .inl q
        · exact .inr ⟨h, q⟩
theorem wl_succ (rows : List Rw) (K : List (Int × List Int)) (k : Nat) : wl rows K (k + 1) = wl rows K k ++ [((widL rows K k : Nat) : Int)] := by
  unfold wl
  rw [List.range_succ, List.map_append]; rfl
theorem ll_succ (rows : List Rw) (K : List (Int × List Int)) (k : Nat) : ll rows K (k + 1) = ll rows K k ++ [(((liveL rows K (k + 1)).length : Nat) : Int)] := by
  unfold ll
  rw [List.range_succ, List.map_append]; rfl
theorem wl_len (rows : List Rw) (K : List (Int × List Int)) (k : Nat) : (wl rows K k).length = k := by unfold wl; simp
theorem ll_len (rows : List Rw) (K : List (Int × List Int)) (k : Nat) : (ll rows K k).length = k := by unfold ll; simp
end
/-- Where follow keeps what it knows: the map of the live ones in block Z, of those gone in the next, two rows above. -/
structure Fl (w : World) (Z n : Nat) (Kn : List Int) (S : Int → Bool) (wv lv : Value) (W L : List Int) : Prop where
  now : NM w Z n Kn
  nod : Kn.Nodup
  gone : SM w (Z + 1) n S
  ww : Own w (Z + 2) wv W
  lw : Own w (Z + 2) lv L
  ap : Apart wv lv
section
variable {w w' : World} {Z n : Nat} {Kn : List Int} {S : Int → Bool} {wv lv : Value} {W L : List Int}
theorem Fl.big (h : Fl w Z n Kn S wv lv W L) : Z + 2 ≤ w.heap.size := by have := h.gone.lt; omega
theorem Fl.below (h : Fl w Z n Kn S wv lv W L) (hb : Below w.heap.size w w') : Fl w' Z n Kn S wv lv W L :=
  ⟨h.now.below hb h.now.lt, h.nod, h.gone.at (hb.block _ h.gone.lt), h.ww.at (fun g _ hl => hb.block g hl), h.lw.at (fun g _ hl => hb.block g hl), h.ap⟩
theorem Fl.mono {m : Nat} (h : Fl w Z n Kn S wv lv W L) (hm : n ≤ m) : Fl w Z m Kn S wv lv W L := ⟨h.now.mono hm, h.nod, h.gone.mono hm, h.ww, h.lw, h.ap⟩
theorem Fl.other (h : Fl w Z n Kn S wv lv W L) {g : Nat} (hg : w.grownBy w' (some g)) (hz : g < Z + 2) : Own w' (Z + 2) wv W ∧ Own w' (Z + 2) lv L := by
  refine ⟨h.ww.at (fun b hb hl => ?_), h.lw.at (fun b hb hl => ?_)⟩
  · have := h.ww.block b hb
    exact hg.block b hl (fun e => by injection e with e; omega)
  · have := h.lw.block b hb
    exact hg.block b hl (fun e => by injection e with e; omega)
theorem Fl.put (h : Fl w Z n Kn S wv lv W L) {x : Int} (hx : In64 x) (hn : n < maxLen) :
    ∃ w', (Instr.mapUpdate 41 (.map (some Z)) (.int .i64 x) (.bool true)).run Try.prog w = .ok () w' ∧ Fl w' Z (n + 1) (kPut Kn x) S wv lv W L ∧ Below Z w w' ∧ Kp (fun b => b < Z ∨ Z + 1 < b) w w' := by
  obtain ⟨w', hr, hs, hg⟩ := h.now.put hx hn
  obtain ⟨o1, o2⟩ := h.other hg (by omega)
  have hb := h.big
  refine ⟨w', hr, ⟨hs, kPut_nodup h.nod x, (h.gone.at (hg.block _ h.gone.lt (fun e => by injection e with e; omega))).mono (Nat.le_succ _), o1, o2, h.ap⟩, (Below.refl Z w).grown hg (by omega) (fun k e => by injection e with e; omega), Kp.grown hg (fun b hb => by omega)⟩
theorem Fl.gonePut (h : Fl w Z n Kn S wv lv W L) {x : Int} (hx : In64 x) (hn : n < maxLen) :
    ∃ w', (Instr.mapUpdate 41 (.map (some (Z + 1))) (.int .i64 x) (.bool true)).run Try.prog w = .ok () w' ∧ Fl w' Z (n + 1) Kn (fun y => decide (y = x) || S y) wv lv W L ∧ Below Z w w' ∧ Kp (fun b => b < Z ∨ Z + 1 < b) w w' := by
  obtain ⟨w', hr, hs, hg⟩ := h.gone.put hx hn
  obtain ⟨o1, o2⟩ := h.other hg (by omega)
  have hb := h.big
  refine ⟨w', hr, ⟨(h.now.at (hg.block _ h.now.lt (fun e => by injection e with e; omega))).mono (Nat.le_succ _), h.nod, hs, o1, o2, h.ap⟩, (Below.refl Z w).grown hg (by omega) (fun k e => by injection e with e; omega), Kp.grown hg (fun b hb => by omega)⟩
theorem Fl.cut (h : Fl w Z n Kn S wv lv W L) {x : Int} (hx : In64 x) :
    ∃ w', (Builtin.delete_ #[41, 3] 0 #[.map (some Z), .int .i64 x]).run Try.prog w = .ok (.tuple #[]) w' ∧ Fl w' Z n (kDel Kn x) S wv lv W L ∧ Below Z w w' ∧ Kp (fun b => b < Z ∨ Z + 1 < b) w w' := by
  obtain ⟨w', hr, hs, hg⟩ := h.now.cut h.nod hx 0
  obtain ⟨o1, o2⟩ := h.other hg (by omega)
  have hb := h.big
  refine ⟨w', hr, ⟨hs, kDel_nodup h.nod x, h.gone.at (hg.block _ h.gone.lt (fun e => by injection e with e; omega)), o1, o2, h.ap⟩, (Below.refl Z w).grown hg (by omega) (fun k e => by injection e with e; omega), Kp.grown hg (fun b hb => by omega)⟩
end
theorem Fl.made (w : World) : Fl ((w.alloc (.map #[] 0)).alloc (.map #[] 0)) w.heap.size 0 [] (fun _ => false) (.slice none 0 0) (.slice none 0 0) [] [] := by
  have m1 := NM.made w
  have m2 := SM.made (w.alloc (.map #[] 0))
  have s1 : (w.alloc (.map #[] 0)).heap.size = w.heap.size + 1 := by simp
  rw [s1] at m2
  have b2 : Below (w.alloc (.map #[] 0)).heap.size (w.alloc (.map #[] 0)) ((w.alloc (.map #[] 0)).alloc (.map #[] 0)) := (Below.refl _ _).alloc (Nat.le_refl _) _
  exact ⟨m1.below b2 m1.lt, List.nodup_nil, m2, World.ownsRow_nil _ _ _ _, World.ownsRow_nil _ _ _ _, fun k hk => by simp [Value.ownBlock] at hk⟩
end Go.Proofs.Ytjohdkcgodaeiaa
