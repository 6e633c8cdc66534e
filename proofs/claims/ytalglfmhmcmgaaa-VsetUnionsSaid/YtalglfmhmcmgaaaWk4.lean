/- The walk of VsetUnions. -/
import Derived.Test.YtalglfmhmcmgaaaWk3
import Derived.Deep.Matrix
namespace Go.Proofs.Ytalglfmhmcmgaaa
open Go.RowKit Go.WideShapes Go.ChangeShapes

theorem rows_open {H : Type} {enc : TypeId × Value → H} {w : World} {r : Reach} {b0 : Nat} {v : Value} {d : DataW H} {p : List MemPlace}
    (hv : Value.okWide Try.prog w r b0 30 v) (h : DataW.Trod enc Try.prog w 0 (fun _ => true) true 30 v d p) :
    ∃ (A : Option Addr) (c : Nat) (rows : List Rw), v = .slice A rows.length c ∧ RR w w.heap.size A rows ∧ rows.length ≤ maxLen ∧ ∀ i, i < rows.length → (rw_ rows i).2.2.length ≤ (rw_ rows i).2.1 ∧ (rw_ rows i).2.1 ≤ maxLen := by
  obtain ⟨A, len, cap, rfl⟩ := okWide_slice Try.underlying30 hv
  obtain ⟨fuel, hf⟩ := h
  rcases Go.Deep.open_int_rows Try.underlying30 Try.underlying22 Try.underlying3 (by kernel_rfl) (by kernel_rfl) hf with ⟨hcs, _⟩ | ⟨x, l, c, Ad, L, C, Z, hcs, _, hl, hm, _, hrow⟩
  · simp [Value.cells] at hcs
    obtain ⟨rfl, rfl, rfl⟩ := hcs
    exact ⟨none, 0, [], rfl, RR.nil, Nat.zero_le _, fun i hi => absurd hi (by simp)⟩
  · simp [Value.cells] at hcs
    obtain ⟨rfl, rfl, rfl⟩ := hcs
    have ha : ∀ (b off j : Nat), (⟨b, off, none⟩ : Addr).add j = ⟨b, off + j, none⟩ := add_off
    have hlen : ((List.range len).map fun r => ((Ad r, C r, (Z r).take (L r)) : Rw)).length = len := by simp
    have hat : ∀ i, i < len → rw_ ((List.range len).map fun r => ((Ad r, C r, (Z r).take (L r)) : Rw)) i = (Ad i, C i, (Z i).take (L i)) := fun i hi => by unfold rw_; simp [List.getD, hi]
    have hzl : ∀ i, i < len → ((Z i).take (L i)).length = L i := fun i hi => by
      obtain ⟨_, h2, _, h4, _⟩ := hrow i (by omega)
      rw [List.length_take]; omega
    refine ⟨some x, cap, (List.range len).map fun r => (Ad r, C r, (Z r).take (L r)), by rw [hlen], ⟨fun hp => ?_, fun i hi => ?_⟩, by rw [hlen]; omega, fun i hi => ?_⟩
    · rw [hlen] at hp
      have hc0 := (hrow 0 (by omega)).1
      have hlt := cell_lt hc0
      obtain ⟨b, off, spot⟩ := x
      have hspot : spot = none := by simpa [Addr.add] using World.cell?_spot hc0
      subst hspot
      refine ⟨b, off, rfl, by simpa [ha] using hlt, fun i hi => ?_⟩
      rw [hlen] at hi
      have := (hrow i (by omega)).1
      rw [ha] at this
      rw [this, hat i hi]
      unfold rcell
      simp only
      rw [hzl i hi]
    · rw [hlen] at hi
      rw [hat i hi]
      obtain ⟨_, h2, h3, h4, _, h6, h7⟩ := hrow i (by omega)
      refine ⟨fun hp => ?_, h6⟩
      simp only at hp ⊢
      rw [hzl i hi] at hp
      cases hA : Ad i with
      | none => have := h6 hA; omega
      | some a' =>
        obtain ⟨_, hcc⟩ := h7 a' hA
        have hc0 := hcc 0 (by omega)
        have hlt := cell_lt hc0
        obtain ⟨b, off, spot⟩ := a'
        have hspot : spot = none := by simpa [Addr.add] using World.cell?_spot hc0
        subst hspot
        refine ⟨b, off, rfl, by simpa [ha] using hlt, fun j hj => ?_⟩
        rw [hzl i hi] at hj
        have := hcc j (by omega)
        rw [ha] at this
        rw [this]
        unfold li
        simp [List.getD, hj]
    · rw [hlen] at hi
      rw [hat i hi]
      simp only
      rw [hzl i hi]
      exact ⟨(hrow i (by omega)).2.1, (hrow i (by omega)).2.2.1⟩

theorem few_exact (A : Option Addr) (ca : Nat) (l : List Int) (w : World) (hl : l.length ≤ maxLen) (hc : l.length ≤ ca) (hm : ca ≤ maxLen) :
    Calls Try.prog 7 #[.slice A l.length ca] w fun r w' => r = .returned (.slice A (l.take 60).length ca) ∧ w = w' := by
  unfold maxLen at hl hm
  have h2 : min (l.length : Int) 60 ≤ (ca : Int) := by omega
  have h3 : (min (l.length : Int) 60).toNat = (l.take 60).length := by rw [List.length_take]; omega
  have HE := Lib.hid h3
  have h4 : (min (l.length : Int) 60).toNat ≤ ca := by omega
  have h5 : 0 ≤ min (l.length : Int) 60 := by omega
  clear h3
  rw [← HE.out]
  go_enter Try.func7, Try.ntmps7
  go_wp2
  go_ret
  exact ⟨rfl, rfl⟩
theorem RI.take {w : World} {B : Nat} {A : Option Addr} {l : List Int} (h : RI w B A l) (n : Nat) : RI w B A (l.take n) := fun hp => by
  rw [List.length_take] at hp
  obtain ⟨b, off, e, hb, hc⟩ := h (by omega)
  refine ⟨b, off, e, hb, fun i hi => ?_⟩
  rw [List.length_take] at hi
  rw [hc i (by omega)]
  unfold li; simp [List.getD, show i < n by omega]
/-- A row cut to 60 elements. -/
def fw (r : Rw) : Rw := (r.1, r.2.1, r.2.2.take 60)
def cutR (rows : List Rw) (k : Nat) : List Rw := (rows.take k).map fw
theorem cutR_len {rows : List Rw} {k : Nat} (h : k ≤ rows.length) : (cutR rows k).length = k := by unfold cutR; simp; omega
theorem cutR_succ {rows : List Rw} {k : Nat} (h : k < rows.length) : cutR rows (k + 1) = cutR rows k ++ [fw (rw_ rows k)] := by
  unfold cutR rw_
  rw [List.take_succ_eq_append_getElem h, List.map_append]
  simp [List.getD, List.getElem?_eq_getElem h]
theorem cutR_at {rows : List Rw} {k i : Nat} (h : k ≤ rows.length) (hi : i < k) : rw_ (cutR rows k) i = fw (rw_ rows i) := by
  unfold cutR rw_
  simp [List.getD, hi, show i < rows.length by omega]
theorem allL_small (rows : List Rw) (h : ∀ i, i < rows.length → (rw_ rows i).2.2.length ≤ 60) : ∀ k, k ≤ rows.length → (allL rows k).length ≤ 60 * k
  | 0, _ => by simp [allL]
  | k + 1, hk => by
    have := allL_small rows h k (by omega)
    have := h k (by omega)
    rw [allL_succ (by omega), List.length_append]; omega
def Own2 (w : World) (base : Nat) (v : Value) (rows : List Rw) : Prop := w.ownsRow base 22 1 v rows.length (rows.map rcell)
theorem Own2.empty (w : World) : Own2 (w.alloc (.cells #[] 22)) w.heap.size (.slice (some ⟨w.heap.size, 0, none⟩) 0 0) [] :=
  ⟨rfl, .inr ⟨w.heap.size, 0, #[], rfl, Nat.le_refl _, heap_alloc_new w _, Nat.le_refl _, Nat.zero_le _, rfl, rfl⟩⟩
theorem Own2.block {w : World} {base : Nat} {v : Value} {rows : List Rw} (h : Own2 w base v rows) (k : Nat) (e : v.ownBlock = some k) : base ≤ k := by
  rcases h.2 with ⟨rfl, _⟩ | ⟨g, cap, cur, rfl, hg, _⟩
  · simp [Value.ownBlock] at e
  · simp [Value.ownBlock] at e; omega
theorem Own2.form {w : World} {base : Nat} {v : Value} {rows : List Rw} (h : Own2 w base v rows) (hr : ∀ i, i < rows.length → RI w w.heap.size (rw_ rows i).1 (rw_ rows i).2.2 ∧ ((rw_ rows i).1 = none → (rw_ rows i).2.1 = 0)) : ∃ A c, v = .slice A rows.length c ∧ RR w w.heap.size A rows := by
  rcases h.2 with ⟨rfl, h0⟩ | ⟨g, cap, cur, rfl, hg, hh, hn, hc, hsz, htk⟩
  · have : rows = [] := List.eq_nil_of_length_eq_zero h0
    subst this
    exact ⟨none, 0, rfl, RR.nil⟩
  · refine ⟨_, cap, rfl, ⟨fun hp => ⟨g, 0, rfl, ?_, fun i hi => ?_⟩, hr⟩⟩
    · rcases Nat.lt_or_ge g w.heap.size with hlt | hge
      · exact hlt
      · rw [Array.getElem?_eq_none hge] at hh; cases hh
    · rw [Nat.zero_add, cell_of_row w g i cur 22 (0, 0) hh]
      have h2 : (rows.map rcell)[i]? = some (rcell (rw_ rows i)) := by unfold rw_; simp [hi]
      rw [← htk, List.getElem?_take] at h2
      split at h2
      · simpa using h2
      · cases h2
theorem Own2.push {w : World} {base : Nat} {v : Value} {rows : List Rw} {r : Rw} (h : w.ownsRow base 22 1 v (rows.length + 1) (rows.map rcell ++ [rcell r])) : Own2 w base v (rows ++ [r]) := by
  unfold Own2; simpa using h
theorem info22 : (Try.prog.info? 22).map (fun i => (i.zero, i.size, i.bytes)) = some (some (.slice none 0 0), 1, 24) := by kernel_rfl

set_option maxHeartbeats 4000000 in
theorem vsetUnions_walk (a0 : Option Addr) (cap0 : Nat) (rows : List Rw) (w : World) (w0 : RR w w.heap.size a0 rows) (m0 : rows.length ≤ maxLen) (n0 : ∀ i, i < rows.length → (rw_ rows i).2.2.length ≤ (rw_ rows i).2.1 ∧ (rw_ rows i).2.1 ≤ maxLen) :
    Calls Try.prog 5 #[.slice a0 rows.length cap0] w fun e w' => e = .returned (.bool true) ∧ Below w.heap.size w w' := by
  obtain ⟨i0, hi0, hz0, hz1, hz2⟩ := info_parts info22
  unfold maxLen at m0
  have H := Lib.hid w0
  have HN := Lib.hid n0
  have hE := Lib.hid (Own2.empty w)
  have hbw0 : Below w.heap.size w (w.alloc (.cells #[] 22)) := (Below.refl _ _).alloc (Nat.le_refl _) _
  clear w0 n0
  go_enter Try.func5, Try.ntmps5
  go_wp2
  go_loopw [3, 4] (fun v i wr => ∃ k : Nat, k ≤ rows.length ∧ k ≤ 12 ∧ i = .int .i64 k ∧ Own2 wr w.heap.size v (cutR rows k) ∧ Below w.heap.size w wr) (fun _ i _ => 12 - (intOf i).toNat)
  case atStart => exact ⟨0, Nat.zero_le _, Nat.zero_le _, rfl, hE.out, hbw0⟩
  case round =>
    obtain ⟨k, hk, hk12, rfl, hO, hbr⟩ := hrel
    have HO := Lib.hid hO
    clear hO
    have hcl := cutR_len hk
    by_cases hgo : k < rows.length ∧ k < 12
    · obtain ⟨hlt, hlt2⟩ := hgo
      obtain ⟨b, off, rfl, hb, hc⟩ := H.out.at_ (by omega)
      have e1 := (hbr.cell (p := ⟨b, off + k, none⟩) hb).trans (hc k hlt)
      obtain ⟨hn1, hn2⟩ := HN.out k hlt
      have hcs := cutR_succ hlt
      unfold rcell at e1
      have h1' : (k : Int) < (rows.length : Int) := by omega
      have h2' : (k : Int) < 12 := by omega
      obtain ⟨⟨Ak, ck, lk⟩, hrk⟩ : ∃ r, rw_ rows k = r := ⟨_, rfl⟩
      rw [hrk] at e1 hn1 hn2 hcs
      simp only at e1 hn1 hn2
      have hfw : fw (Ak, ck, lk) = (Ak, ck, lk.take 60) := rfl
      rw [hfw] at hcs
      have HFew := Lib.hid (few_exact Ak ck lk wr (by omega) hn1 hn2)
      obtain ⟨L, hL⟩ : ∃ L, lk.take 60 = L := ⟨_, rfl⟩
      rw [hL] at hcs HFew
      have HS := Lib.hid hcs
      have HOP : ∀ v' w', World.ownsRow w' w.heap.size 22 1 v' ((cutR rows k).length + 1) ((cutR rows k).map rcell ++ [rcell (Ak, ck, L)]) → Hid (Own2 w' w.heap.size v' (cutR rows (k + 1))) := fun v' w' h => by
        show Own2 _ _ _ _
        rw [HS.out]; exact Own2.push h
      have HCL := Lib.hid hcl
      clear hc hrk hn1 hn2 hcs hfw hL hcl
      go_wp2_with fail
      refine HFew.out.mono ?_; rintro e w2 ⟨rfl, rfl⟩
      clear HFew
      go_wp2_with (at_builtin; refine wpList_append_own _ rfl _ _ 30 rfl w.heap.size 22 i0 _ 1 24 Try.underlying30 hi0 hz0 hz1 hz2 rfl (by decide) _ _ _ rfl (World.ownsRow.alloc HO.out _) ⟨wr.heap.size, 0, none⟩ 1 1 [rcell (Ak, ck, L)] rfl rfl (cell_one_new _ _ _) (by simp [rcell, Value.oneCell']) (by rw [HCL.out]; unfold maxLen; omega) (by rw [HCL.out]; omega) (by have := hbr.size; simp; omega) ?_; intro v2 w4 hown hg4 _; have HO4 := HOP _ _ hown; have hbr4 := (hbr.alloc hbr.size _).grown hg4 (by have := hbr.size; simp; omega) (fun k e => HO.out.block k e); clear hown hg4 HO)
      go_roundw
      case rel => exact ⟨k + 1, by omega, by omega, by go_num, HO4.out, hbr4⟩
      case measure => simp [intOf]; omega
    · have hR : ∀ i, i < (cutR rows k).length → RI wr wr.heap.size (rw_ (cutR rows k) i).1 (rw_ (cutR rows k) i).2.2 ∧ ((rw_ (cutR rows k) i).1 = none → (rw_ (cutR rows k) i).2.1 = 0) := fun i hi => by
        rw [hcl] at hi
        rw [cutR_at hk hi]
        obtain ⟨h1, h2⟩ := H.out.row i (by omega)
        exact ⟨(h1.step hbr).take 60, h2⟩
      have hsm : (allL (cutR rows k) (cutR rows k).length).length ≤ 720 := by
        have := allL_small (cutR rows k) (fun i hi => by
          rw [hcl] at hi
          rw [cutR_at hk hi]
          unfold fw
          simp only [List.length_take]; omega) (cutR rows k).length (Nat.le_refl _)
        rw [hcl] at this ⊢; omega
      obtain ⟨A2, c2, rfl, hRR⟩ := HO.out.form hR
      have HRR := Lib.hid hRR
      obtain ⟨R, hRn⟩ : ∃ R, cutR rows k = R := ⟨_, rfl⟩
      rw [hRn] at HRR hsm hcl ⊢
      have hRl : R.length ≤ 12 := by omega
      have hUl : (setL (allL R R.length)).length ≤ 720 := Nat.le_trans (set_le _) hsm
      clear hR hRR HO hRn hcl
      have hcase : rows.length ≤ k ∨ (k < rows.length ∧ 12 ≤ k) := by omega
      clear hgo
      rcases hcase with hge | ⟨hlt, hge⟩
      · have h1' : (rows.length : Int) ≤ (k : Int) := by omega
        go_wp2_with fail
        refine (vset_Union _ _ R _ HRR.out (by omega) (by omega)).mono ?_; rintro e u_1 ⟨A3, c3, rfl, r3, _, hb⟩
        have R_2 := Lib.hid (HRR.out.step hb)
        have hbw_2 := hbr.trans (hb.mono hbr.size)
        clear hb HRR hbr
        have X_3 := Lib.hid r3
        clear r3
        go_wp2_with fail
        refine (ref_Union _ _ R _ R_2.out (by omega) (by omega)).mono ?_; rintro e u_4 ⟨A4, c4, rfl, r4, _, hb⟩
        have R_5 := Lib.hid (R_2.out.step hb)
        have X_5 := Lib.hid (X_3.out.step hb)
        have hbw_5 := hbw_2.trans (hb.mono hbw_2.size)
        clear hb R_2 X_3 hbw_2
        have Y_6 := Lib.hid r4
        clear r4
        go_wp2_with fail
        refine (same_yes _ _ _ _ _ (setL (allL R R.length)) _ rfl X_5.out Y_6.out (by omega)).mono ?_; rintro e u_7 ⟨rfl, hb⟩
        have hbw_8 := hbw_5.trans (hb.mono hbw_5.size)
        clear hb hbw_5
        go_wp2_with fail
        refine (vset_Union none 0 [] _ RR.nil (by decide) (by decide)).mono ?_; rintro e u_9 ⟨A5, c5, rfl, r5, _, hb⟩
        have hn5 : (setL (allL ([] : List Rw) ([] : List Rw).length)).length = 0 := by rw [show allL ([] : List Rw) ([] : List Rw).length = [] from rfl, set_nil]; rfl
        rw [hn5]
        clear hn5 r5
        have hbw_10 := hbw_8.trans (hb.mono hbw_8.size)
        clear hb hbw_8
        go_wp2_with fail
        refine (vset_Of none 0 [] _ RI.nil (by decide)).mono ?_; rintro e u_11 hG
        obtain ⟨A6, c6, rfl, r6, _, hb⟩ := hG.gives
        clear hG
        rw [set_nil]
        clear r6
        have hbw_12 := hbw_10.trans (hb.mono hbw_10.size)
        clear hb hbw_10
        go_wp2_with fail
        refine (lives_any _).mono ?_; rintro e u_13 ⟨rfl, hb⟩
        have hbw_14 := hbw_12.trans (hb.mono hbw_12.size)
        clear hb hbw_12
        go_wp2
        go_ret
        exact ⟨rfl, hbw_14⟩
      · have h1' : (k : Int) < (rows.length : Int) := by omega
        have h2' : (12 : Int) ≤ (k : Int) := by omega
        go_wp2_with fail
        refine (vset_Union _ _ R _ HRR.out (by omega) (by omega)).mono ?_; rintro e u_1 ⟨A3, c3, rfl, r3, _, hb⟩
        have R_2 := Lib.hid (HRR.out.step hb)
        have hbw_2 := hbr.trans (hb.mono hbr.size)
        clear hb HRR hbr
        have X_3 := Lib.hid r3
        clear r3
        go_wp2_with fail
        refine (ref_Union _ _ R _ R_2.out (by omega) (by omega)).mono ?_; rintro e u_4 ⟨A4, c4, rfl, r4, _, hb⟩
        have R_5 := Lib.hid (R_2.out.step hb)
        have X_5 := Lib.hid (X_3.out.step hb)
        have hbw_5 := hbw_2.trans (hb.mono hbw_2.size)
        clear hb R_2 X_3 hbw_2
        have Y_6 := Lib.hid r4
        clear r4
        go_wp2_with fail
        refine (same_yes _ _ _ _ _ (setL (allL R R.length)) _ rfl X_5.out Y_6.out (by omega)).mono ?_; rintro e u_7 ⟨rfl, hb⟩
        have hbw_8 := hbw_5.trans (hb.mono hbw_5.size)
        clear hb hbw_5
        go_wp2_with fail
        refine (vset_Union none 0 [] _ RR.nil (by decide) (by decide)).mono ?_; rintro e u_9 ⟨A5, c5, rfl, r5, _, hb⟩
        have hn5 : (setL (allL ([] : List Rw) ([] : List Rw).length)).length = 0 := by rw [show allL ([] : List Rw) ([] : List Rw).length = [] from rfl, set_nil]; rfl
        rw [hn5]
        clear hn5 r5
        have hbw_10 := hbw_8.trans (hb.mono hbw_8.size)
        clear hb hbw_8
        go_wp2_with fail
        refine (vset_Of none 0 [] _ RI.nil (by decide)).mono ?_; rintro e u_11 hG
        obtain ⟨A6, c6, rfl, r6, _, hb⟩ := hG.gives
        clear hG
        rw [set_nil]
        clear r6
        have hbw_12 := hbw_10.trans (hb.mono hbw_10.size)
        clear hb hbw_10
        go_wp2_with fail
        refine (lives_any _).mono ?_; rintro e u_13 ⟨rfl, hb⟩
        have hbw_14 := hbw_12.trans (hb.mono hbw_12.size)
        clear hb hbw_12
        go_wp2
        go_ret
        exact ⟨rfl, hbw_14⟩
end Go.Proofs.Ytalglfmhmcmgaaa
