/- The specification's Put; layer 10 (uniq). -/
import Derived.Test.YtmnolldomipgiaaFn2
namespace Go.Proofs.Ytmnolldomipgiaa
open Go.RowKit Go.Maps

def enL (x : En) : List Value := (enR x).toList
def enC (l : List En) : List Value := l.flatMap enL
theorem enC_len (l : List En) : (enC l).length = l.length * 3 := by
  unfold enC
  induction l with
  | nil => rfl
  | cons x t ih => simp only [List.flatMap_cons, List.length_append, ih, List.length_cons, enL, enR]; simp; omega
theorem enC_at : ∀ (l : List En) (k j : Nat), k < l.length → j < 3 → (enC l)[k * 3 + j]? = (enL (ea l k))[j]?
  | [], k, j, h, _ => by simp at h
  | x :: t, 0, j, _, hj => by
    show (enL x ++ enC t)[0 * 3 + j]? = _
    rw [Nat.zero_mul, Nat.zero_add, List.getElem?_append_left (by show j < 3; exact hj)]
    rfl
  | x :: t, k + 1, j, h, hj => by
    have := enC_at t k j (by simpa using h) hj
    show (enL x ++ enC t)[(k + 1) * 3 + j]? = _
    rw [List.getElem?_append_right (by show 3 ≤ _; omega)]
    have e : (k + 1) * 3 + j - (enL x).length = k * 3 + j := by show _ - 3 = _; omega
    rw [e, this]
    rfl
theorem enC_one (l : List En) : ∀ u ∈ enC l, u.oneCell' = true := by
  intro u hu
  unfold enC at hu
  obtain ⟨x, _, hx⟩ := List.mem_flatMap.1 hu
  simp [enL, enR] at hx
  rcases hx with rfl | rfl | rfl <;> rfl
theorem RowE.cells {B : Nat} {w : World} {b f : Nat} {l : List En} (h : RowE B w (some ⟨b, f, none⟩) l) : ∀ j u, (enC l)[j]? = some u → w.cell? ⟨b, f + j, none⟩ = some u := by
  intro j u hj
  have hlt : j < (enC l).length := (List.getElem?_eq_some_iff.1 hj).1
  rw [enC_len] at hlt
  obtain ⟨b', f', e', _, hc⟩ := h (by omega)
  injection e' with e'; injection e' with e1 e2; subst e1; subst e2
  have hk : j / 3 < l.length := by omega
  have e : j = j / 3 * 3 + j % 3 := by omega
  rw [e] at hj
  rw [enC_at l _ _ hk (by omega)] at hj
  obtain ⟨h0, h1, h2⟩ := hc _ hk
  rw [e, ← Nat.add_assoc]
  generalize j / 3 = q at *
  have hr : j % 3 = 0 ∨ j % 3 = 1 ∨ j % 3 = 2 := by omega
  rcases hr with hr | hr | hr <;> rw [hr] at hj ⊢ <;> simp [enL, enR] at hj <;> subst hj
  · exact h0
  · exact h1
  · exact h2
def OwnE (w : World) (B : Nat) (v : Value) (l : List En) : Prop := w.ownsRow B 38 3 v l.length (enC l)
theorem info38 : (Try.prog.info? 38).map (fun i => (i.zero, i.size, i.bytes)) = some (some (.agg #[.int .i64 0, .int .i64 0, .int .i64 0]), 3, 24) := by kernel_rfl
theorem info_parts {P : Program} {t : TypeId} {z : Option Value} {a b : Nat} (h : (P.info? t).map (fun i => (i.zero, i.size, i.bytes)) = some (z, a, b)) : ∃ i, P.info? t = some i ∧ i.zero = z ∧ i.size = a ∧ i.bytes = b := by
  cases hi : P.info? t with
  | none => rw [hi] at h; cases h
  | some i => rw [hi] at h; simp only [Option.map_some, Option.some.injEq, Prod.mk.injEq] at h; exact ⟨i, rfl, h.1, h.2.1, h.2.2⟩
theorem own_keep {w w' : World} {B e size n : Nat} {v : Value} {xs : List Value} (h : w.ownsRow B e size v n xs) (hb : ∀ b, v.ownBlock = some b → b < w.heap.size → w'.heap[b]? = w.heap[b]?) : w'.ownsRow B e size v n xs := by
  have hlt := fun g => World.ownsRow.lt h g
  obtain ⟨h1, h2⟩ := h
  refine ⟨h1, ?_⟩
  rcases h2 with h2 | ⟨g, cap, cur, hv, hg, hh, rest⟩
  · exact .inl h2
  · exact .inr ⟨g, cap, cur, hv, hg, (hb g (by rw [hv]; rfl) (hlt g (by rw [hv]; rfl)).2).trans hh, rest⟩
theorem OwnE.below {w w' : World} {B v l} (h : OwnE w B v l) (hb : Below w.heap.size w w') : OwnE w' B v l := own_keep h (fun b _ hlt => hb.block b hlt)
theorem OwnE.nil (w : World) (B : Nat) : OwnE w B (.slice none 0 0) [] := ⟨rfl, .inl ⟨rfl, rfl⟩⟩
theorem OwnE.row {w : World} {B : Nat} {v : Value} {l : List En} (h : OwnE w B v l) : ∃ A c, v = .slice A l.length c ∧ RowE w.heap.size w A l ∧ l.length ≤ c := by
  have hlt := fun b (hb : v.ownBlock = some b) => World.ownsRow.lt h b hb
  obtain ⟨hl, h⟩ := h
  rcases h with ⟨rfl, h0⟩ | ⟨g, cap, cur, rfl, hg, hh, hn, hc, hsz, htk⟩
  · have := List.eq_nil_of_length_eq_zero h0
    subst this
    exact ⟨none, 0, rfl, RowE.nil, Nat.le_refl _⟩
  · refine ⟨some ⟨g, 0, none⟩, cap, rfl, fun _ => ⟨g, 0, rfl, (hlt g rfl).2, fun k hk => ?_⟩, hn⟩
    have hB : Blk w g 38 cur := hh
    have key : ∀ j u, j < 3 → (enL (ea l k))[j]? = some u → w.cell? ⟨g, 0 + k * 3 + j, none⟩ = some u := fun j u hj hu => by
      rw [← enC_at l k j hk hj, ← htk, List.getElem?_take_of_lt (by omega)] at hu
      rw [hB.cell, Nat.zero_add, ← Array.getElem?_toList]; exact hu
    exact ⟨key 0 _ (by omega) rfl, key 1 _ (by omega) rfl, key 2 _ (by omega) rfl⟩
/-- append of an entry to a row of the call's own, in a plain region. -/
theorem wpList_app_en {ops : Array Oper} {rest : List Oper} {o : Oper} {a : Act} {Q : Exit → Act → World → Prop} (hgd : o.guard = none) (s x : Operand)
    (ho : o.op = .call { callee := .builtin .append, args := #[s, x], argTypes := #[26, 26] }) (W : World) (B : Nat) (v : Value) (l : List En) (hs : a.eval s = v) (hrow : OwnE W B v l) (p q r : Int) (g : Nat) (hg0 : W.heap.size = g) (hx : a.eval x = .slice (some ⟨g, 0, none⟩) 1 1) (hB : B ≤ W.heap.size) (hn : l.length ≤ 1000000)
    (h : ∀ v' w', OwnE w' B v' (l ++ [⟨p, q, r⟩]) → Below B W w' → wpList Try.prog ops Q rest (a.put o.dst v') w') :
    wpList Try.prog ops Q (o :: rest) a (W.alloc (.cells #[.int .i64 p, .int .i64 q, .int .i64 r] 38)) := by
  obtain ⟨i0, hi0, hz0, hz1, hz2⟩ := info_parts info38
  subst hg0
  have hal : Below W.heap.size W (W.alloc (.cells #[.int .i64 p, .int .i64 q, .int .i64 r] 38)) := (Below.refl _ _).alloc (Nat.le_refl _) _
  have hblk := Blk.new W 38 #[.int .i64 p, .int .i64 q, .int .i64 r]
  have hrow2 := hrow.below hal
  refine wpList_append_own_at _ hgd s x 26 ho B 38 i0 _ 3 24 Try.underlying26 hi0 hz0 hz1 hz2 rfl (by decide) v l.length (enC l) hs hrow2 ⟨W.heap.size, 0, none⟩ 1 1 (enL ⟨p, q, r⟩) hx rfl (fun j u hj => ?_) (by simp [enL, enR, Value.oneCell']) (by unfold maxLen; omega) (by omega) (by simp; omega) ?_
  · have e : (⟨W.heap.size, 0, none⟩ : Addr).add j = ⟨W.heap.size, 0 + j, none⟩ := by unfold Addr.add; split <;> simp_all
    rw [e, Nat.zero_add, hblk.cell]
    simpa [enL, enR] using hj
  · intro v' w' hO hg _ _
    refine h v' w' ?_ ((hal.mono hB).trans ((Below.refl _ _).grown hg (by simp; omega) (fun k e => (World.ownsRow.lt hrow2 k e).1)))
    unfold OwnE enC at *
    rw [List.flatMap_append, List.length_append]
    simpa using hO
def insE (l : List En) (x : En) : List En := l.filter (fun y => aheadB y x) ++ [x] ++ l.filter (fun y => aheadB x y)
theorem filt_take {l : List En} {k : Nat} (h : k < l.length) (p : En → Bool) : (l.take (k + 1)).filter p = (l.take k).filter p ++ (if p (ea l k) = true then [ea l k] else []) := by
  rw [ea_take h, List.filter_append]
  congr 1
  simp [List.filter_cons]
theorem filt_len (l : List En) (p : En → Bool) (k : Nat) : ((l.take k).filter p).length ≤ l.length := Nat.le_trans (List.length_filter_le _ _) (by simp; omega)
/-- What Put leaves. -/
def GivE (w : World) (l : List En) (why : Int) (e : Ending) (w' : World) : Prop := ∃ A c, e = .returned (.tuple #[.slice A l.length c, .int .i64 why]) ∧ RowE w'.heap.size w' A l ∧ Below w.heap.size w w' ∧ l.length ≤ c
set_option maxRecDepth 100000 in
set_option maxHeartbeats 4000000 in
theorem r_Put_new (l : List En) (x : En) (A : Option Addr) (ca : Nat) (w : World) (hA : RowE w.heap.size w A l) (hl : l.length ≤ 1000) (hi : idxE l x.lo x.hi = none) :
    Calls Try.prog 18 #[.slice A l.length ca, .int .i64 x.lo, .int .i64 x.hi, .int .i64 x.id] w (GivE w (insE l x) 0) := by
  have hF := r_Find l x.lo x.hi A ca w hA (by omega)
  have e1 : idxZ l x.lo x.hi = -1 := by unfold idxZ; rw [hi]
  rw [e1] at hF
  have HF := Lib.hid hF
  have HL := Lib.hid hl
  have HAh : Hid (∀ a b wx, Calls Try.prog 21 #[enV a, enV b] wx fun e w' => e = .returned (.bool (aheadB a b)) ∧ Below wx.heap.size wx w') := Lib.hid r_ahead
  obtain ⟨w1, hw1⟩ : ∃ w1, w.alloc (.cells #[.int .i64 x.lo, .int .i64 x.hi, .int .i64 x.id] 38) = w1 := ⟨_, rfl⟩
  obtain ⟨g, hg⟩ : ∃ g, w.heap.size = g := ⟨_, rfl⟩
  have hb01 : Below w.heap.size w w1 := by rw [← hw1]; exact (Below.refl _ _).alloc (Nat.le_refl _) _
  have hk1 : Blk w1 g 38 (enR x) := by rw [← hw1, ← hg]; exact Blk.new w 38 (enR x)
  have HG := Lib.hid hk1
  have HA := Lib.hid (hA.below hb01 (Nat.le_refl _))
  have HB01 := Lib.hid hb01
  have hsz : w.heap.size < w1.heap.size := by rw [← hw1]; simp
  have HSZ := Lib.hid hsz
  have HO0 := Lib.hid (OwnE.nil w1 w1.heap.size)
  clear hF e1 hA hl hi hb01 hk1 hsz
  go_enter Try.func18, Try.ntmps18
  go_upto_region 4 with (go_at_call 10; refine HF.out.mono ?_; rintro e w' ⟨rfl, rfl⟩)
  clear hw1
  have HK : Hid (∀ wx, Below w1.heap.size w1 wx → wx.cell? ⟨g, 0, none⟩ = some (.int .i64 x.lo) ∧ wx.cell? ⟨g, 1, none⟩ = some (.int .i64 x.hi) ∧ wx.cell? ⟨g, 2, none⟩ = some (.int .i64 x.id)) := Lib.hid (fun wx hb => by
    have q := HG.out.below hb HG.out.lt
    exact ⟨q.cell 0, q.cell 1, q.cell 2⟩)
  have HR : Hid (0 < l.length → ∃ b f, A = some ⟨b, f, none⟩ ∧ b < w1.heap.size ∧ ∀ k, k < l.length → ∀ wx, Below w1.heap.size w1 wx → wx.cell? ⟨b, f + k * 3, none⟩ = some (.int .i64 (ea l k).lo) ∧ wx.cell? ⟨b, f + k * 3 + 1, none⟩ = some (.int .i64 (ea l k).hi) ∧ wx.cell? ⟨b, f + k * 3 + 2, none⟩ = some (.int .i64 (ea l k).id)) := Lib.hid (fun hl => by
    obtain ⟨b, f, e, hb, hc⟩ := HA.out hl
    have hlt : b < w1.heap.size := by have := HSZ.out; omega
    refine ⟨b, f, e, hlt, fun k hk wx hbx => ?_⟩
    obtain ⟨h0, h1, h2⟩ := hc k hk
    exact ⟨(hbx.cell (p := ⟨b, _, none⟩) hlt).trans h0, (hbx.cell (p := ⟨b, _, none⟩) hlt).trans h1, (hbx.cell (p := ⟨b, _, none⟩) hlt).trans h2⟩)
  have HGl : Hid (g < w1.heap.size) := Lib.hid HG.out.lt
  have HFin : Hid (∀ wx, Below w1.heap.size w1 wx → Below w.heap.size w wx) := Lib.hid (fun wx h => HB01.out.trans (h.mono (by have := HSZ.out; omega)))
  have HFa := Lib.hid (filt_len l (fun y => aheadB y x))
  have HFb := Lib.hid (filt_len l (fun y => aheadB x y))
  clear HF HG HA HB01 HSZ hg
  go_wp2
  go_loopw [11, 12] (fun v i wr => ∃ k : Nat, k ≤ l.length ∧ i = .int .i64 (k : Int) ∧ Hid (OwnE wr w1.heap.size v ((l.take k).filter (fun y => aheadB y x))) ∧ Hid (Below w1.heap.size w1 wr)) (fun _ i _ => l.length - (intOf i).toNat)
  case atStart => exact ⟨0, Nat.zero_le _, rfl, HO0, Lib.hid (Below.refl _ _)⟩
  case round =>
    obtain ⟨k, hk, rfl, HO, HB⟩ := hrel
    have hbd := HL.out
    by_cases hlt : k < l.length
    · have l1 : (k : Int) < (l.length : Int) := by omega
      obtain ⟨b, f0, rfl, hbl, hc⟩ := HR.out (by omega)
      have hbl1 : b < wr.heap.size := Nat.lt_of_lt_of_le hbl HB.out.size
      have hgl1 : g < wr.heap.size := Nat.lt_of_lt_of_le HGl.out HB.out.size
      obtain ⟨d0, d1, d2⟩ := hc k hlt wr HB.out
      obtain ⟨c0, c1, c2⟩ := HK.out wr HB.out
      have HC1 := Lib.hid (hc k hlt)
      have HFT := Lib.hid (filt_take hlt (fun y => aheadB y x))
      have HFl := Lib.hid (HFa.out k)
      have HAk := Lib.hid (HAh.out (ea l k) x)
      clear hc
      generalize ea l k = y at *
      obtain ⟨p, hp⟩ : ∃ p, aheadB y x = p := ⟨_, rfl⟩
      simp only [hp] at HFT
      rw [hp] at HAk
      unfold enV enR at HAk
      go_upto_region 8 with (fail)
      go_cut [35] from 24 to 42 (fun s wx => s = .bool p ∧ Hid (Below wr.heap.size wr wx))
      case first =>
        go_region_with (go_at_call 21; refine (HAk.out _).mono ?_; rintro e w' ⟨rfl, hb2⟩; have HB2 := Lib.hid hb2; clear hb2)
        all_goals
          go_wp2
          go_meet
          exact ⟨rfl, Lib.hid ((Below.refl _ _).drew.trans HB2.out)⟩
      case rest =>
      obtain ⟨rfl, HBx⟩ := hcut
      obtain ⟨wf, hwe⟩ : ∃ x, x = wc := ⟨_, rfl⟩
      subst hwe
      have HBf := Lib.hid (HB.out.trans (HBx.out.mono HB.out.size))
      have HOf := Lib.hid (HO.out.below HBx.out)
      obtain ⟨d0, d1, d2⟩ := HC1.out wf HBf.out
      have hbl2 : b < wf.heap.size := Nat.lt_of_lt_of_le hbl HBf.out.size
      clear HO HB HBx hp
      cases p
      · have HE : Hid ((l.take (k + 1)).filter (fun y => aheadB y x) = (l.take k).filter (fun y => aheadB y x)) := Lib.hid (by rw [HFT.out]; simp)
        go_wp2
        go_roundw
        case rel => exact ⟨k + 1, by omega, by go_num, by rw [HE.out]; exact HOf, HBf⟩
        case measure => simp [intOf]; try omega
      · have HE : Hid ((l.take (k + 1)).filter (fun y => aheadB y x) = (l.take k).filter (fun y => aheadB y x) ++ [y]) := Lib.hid (by rw [HFT.out]; simp)
        have HFl2 : Hid (((l.take k).filter (fun y => aheadB y x)).length ≤ 1000000) := Lib.hid (Nat.le_trans HFl.out (by omega))
        generalize (l.take k).filter (fun y => aheadB y x) = L at *
        go_wp2_with (at_builtin; refine wpList_app_en rfl (.tmp 36) (.tmp 41) rfl wf w1.heap.size u11 L rfl HOf.out y.lo y.hi y.id wf.heap.size rfl rfl HBf.out.size HFl2.out ?_; intro v4 w4 hO4 hb4; have HG4 := Lib.hid hO4; have HB4 := Lib.hid (HBf.out.trans hb4); clear hO4 hb4)
        go_roundw
        case rel => exact ⟨k + 1, by omega, by go_num, by rw [HE.out]; exact HG4, HB4⟩
        case measure => simp [intOf]; try omega
    · have l1 : ¬ (k : Int) < (l.length : Int) := by omega
      obtain rfl : k = l.length := by omega
      have HO1 : Hid (OwnE wr w1.heap.size u11 (l.filter (fun y => aheadB y x))) := Lib.hid (by have := HO.out; rwa [List.take_length] at this)
      have HL1 : Hid ((l.filter (fun y => aheadB y x)).length ≤ 1000000) := Lib.hid (by have := HFa.out l.length; rw [List.take_length] at this; omega)
      obtain ⟨c0, c1, c2⟩ := HK.out wr HB.out
      have hgl1 : g < wr.heap.size := Nat.lt_of_lt_of_le HGl.out HB.out.size
      obtain ⟨wh, hwe⟩ : ∃ x, x = wr := ⟨_, rfl⟩
      subst hwe
      clear HO HO0
      have HBr : Hid (wh.heap.size = wh.heap.size) := Lib.hid rfl
      have hins : Hid (∀ k, l.filter (fun y => aheadB y x) ++ [x] ++ (l.take k).filter (fun y => aheadB x y) = l.filter (fun y => aheadB y x) ++ [x] ++ (l.take k).filter (fun y => aheadB x y)) := Lib.hid (fun _ => rfl)
      have HIns : Hid (insE l x = l.filter (fun y => aheadB y x) ++ [x] ++ (l.take l.length).filter (fun y => aheadB x y)) := Lib.hid (by rw [List.take_length]; rfl)
      have HL2 : Hid (∀ k, (l.filter (fun y => aheadB y x) ++ [x] ++ (l.take k).filter (fun y => aheadB x y)).length ≤ 1000000) := Lib.hid (fun k => by
        have h1 := HFa.out l.length
        rw [List.take_length] at h1
        have h2 := HFb.out k
        rw [List.length_append, List.length_append]
        simp only [List.length_cons, List.length_nil]
        omega)
      clear hins HBr
      generalize l.filter (fun y => aheadB y x) = L1 at *
      go_wp2_with (at_builtin; refine wpList_app_en rfl (.tmp 43) (.tmp 45) rfl wh w1.heap.size u11 L1 rfl HO1.out x.lo x.hi x.id wh.heap.size rfl rfl HB.out.size HL1.out ?_; intro v4 w4 hO4 hb4; have HG4 := Lib.hid hO4; have HB4 := Lib.hid (HB.out.trans hb4); clear hO4 hb4)
      clear HO1 HB c0 c1 c2 hgl1
      go_loopw [11, 13] (fun v i wr => ∃ k : Nat, k ≤ l.length ∧ i = .int .i64 (k : Int) ∧ Hid (OwnE wr w1.heap.size v (L1 ++ [x] ++ (l.take k).filter (fun y => aheadB x y))) ∧ Hid (Below w1.heap.size w1 wr)) (fun _ i _ => l.length - (intOf i).toNat)
      case atStart => exact ⟨0, Nat.zero_le _, rfl, Lib.hid (by simpa using HG4.out), HB4⟩
      case round =>
        clear HG4 HB4 hk l1 hlt
        obtain ⟨k, hk, rfl, HO, HB⟩ := hrel
        have hbd := HL.out
        by_cases hlt : k < l.length
        · have l1 : (k : Int) < (l.length : Int) := by omega
          obtain ⟨b, f0, rfl, hbl, hc⟩ := HR.out (by omega)
          have hbl1 : b < wr.heap.size := Nat.lt_of_lt_of_le hbl HB.out.size
          have hgl1 : g < wr.heap.size := Nat.lt_of_lt_of_le HGl.out HB.out.size
          obtain ⟨d0, d1, d2⟩ := hc k hlt wr HB.out
          obtain ⟨c0, c1, c2⟩ := HK.out wr HB.out
          have HC1 := Lib.hid (hc k hlt)
          have HFT := Lib.hid (filt_take hlt (fun y => aheadB x y))
          have HAk := Lib.hid (HAh.out x (ea l k))
          clear hc
          generalize ea l k = y at *
          obtain ⟨p, hp⟩ : ∃ p, aheadB x y = p := ⟨_, rfl⟩
          simp only [hp] at HFT
          rw [hp] at HAk
          unfold enV enR at HAk
          go_upto_region 14 with (fail)
          go_cut [58] from 47 to 65 (fun s wx => s = .bool p ∧ Hid (Below wr.heap.size wr wx))
          case first =>
            go_region_with (go_at_call 21; refine (HAk.out _).mono ?_; rintro e w' ⟨rfl, hb2⟩; have HB2 := Lib.hid hb2; clear hb2)
            all_goals
              go_wp2
              go_meet
              exact ⟨rfl, Lib.hid ((Below.refl _ _).drew.trans HB2.out)⟩
          case rest =>
          obtain ⟨rfl, HBx⟩ := hcut
          obtain ⟨wf, hwe⟩ : ∃ x, x = wc := ⟨_, rfl⟩
          subst hwe
          have HBf := Lib.hid (HB.out.trans (HBx.out.mono HB.out.size))
          have HOf := Lib.hid (HO.out.below HBx.out)
          obtain ⟨d0, d1, d2⟩ := HC1.out wf HBf.out
          have hbl2 : b < wf.heap.size := Nat.lt_of_lt_of_le hbl HBf.out.size
          clear HO HB HBx hp
          cases p
          · have HE : Hid ((l.take (k + 1)).filter (fun y => aheadB x y) = (l.take k).filter (fun y => aheadB x y)) := Lib.hid (by rw [HFT.out]; simp)
            go_wp2
            go_roundw
            case rel => exact ⟨k + 1, by omega, by go_num, by rw [HE.out]; exact HOf, HBf⟩
            case measure => simp [intOf]; try omega
          · have HE : Hid (L1 ++ [x] ++ (l.take (k + 1)).filter (fun y => aheadB x y) = L1 ++ [x] ++ (l.take k).filter (fun y => aheadB x y) ++ [y]) := Lib.hid (by rw [HFT.out]; simp)
            have HFl2 := Lib.hid (HL2.out k)
            generalize L1 ++ [x] ++ (l.take k).filter (fun y => aheadB x y) = L at *
            go_wp2_with (at_builtin; refine wpList_app_en rfl (.tmp 59) (.tmp 64) rfl wf w1.heap.size u11 L rfl HOf.out y.lo y.hi y.id wf.heap.size rfl rfl HBf.out.size HFl2.out ?_; intro v4 w4 hO4 hb4; have HG4 := Lib.hid hO4; have HB4 := Lib.hid (HBf.out.trans hb4); clear hO4 hb4)
            go_roundw
            case rel => exact ⟨k + 1, by omega, by go_num, by rw [HE.out]; exact HG4, HB4⟩
            case measure => simp [intOf]; try omega
        · have l1 : ¬ (k : Int) < (l.length : Int) := by omega
          obtain rfl : k = l.length := by omega
          have HO1 : Hid (OwnE wr w1.heap.size u11 (insE l x)) := Lib.hid (by rw [HIns.out]; exact HO.out)
          obtain ⟨A', c', hv, hr, hcp⟩ := HO1.out.row
          have HCP := Lib.hid hcp
          clear hcp
          go_wp2
          go_ret2
          exact ⟨A', c', rfl, hr, HFin.out wr HB.out, HCP.out⟩
end Go.Proofs.Ytmnolldomipgiaa
