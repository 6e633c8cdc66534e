/- variables, part: the variables of a part; own: the steps copied; layer 42 (sched). -/
import Derived.Test.YtjohdkcgodaeiaaQ1
import Derived.Test.YtjohdkcgodaeiaaP5
namespace Go.Proofs.Ytjohdkcgodaeiaa
open Go.RowKit

def vrs (rows : List Rw) (p : Int) : List Int := if 0 ≤ p ∧ p < (rows.length : Int) then setL (pr rows p.toNat) else []
theorem vrs_in {rows : List Rw} {m : Nat} (h : m < rows.length) : vrs rows (m : Int) = setL (pr rows m) := by
  unfold vrs
  rw [if_pos (by omega)]; rfl
theorem vrs_out {rows : List Rw} {p : Int} (h : ¬ (0 ≤ p ∧ p < (rows.length : Int))) : vrs rows p = [] := by
  unfold vrs
  rw [if_neg h]
def RowR (w : World) (L : List Int) (e : Ending) (w' : World) : Prop := ∃ (A : Option Addr) (c : Nat), e = .returned (.slice A L.length c) ∧ RI w' w'.heap.size A L ∧ (A = none → c = 0) ∧ (0 < L.length → ∀ a, A = some a → w.heap.size ≤ a.block) ∧ Below w.heap.size w w'
theorem of_row (A : Option Addr) (ca : Nat) (l : List Int) (w : World) (h : RI w w.heap.size A l) (hl : l.length ≤ 1000000000) : Calls Try.prog 30 #[.slice A l.length ca] w (RowR w (setL l)) := by
  refine (vset_Of A ca l w h hl).mono fun e w' hg => ?_
  obtain ⟨A', rfl, hb, hn, hc⟩ := gives_row hg
  refine ⟨A', _, rfl, fun hp => ?_, fun e => by rw [hn e]; rfl, fun hp a ha => ?_, hb⟩
  · obtain ⟨g, hA, _, hg, hcc⟩ := hc hp
    exact ⟨g, 0, hA, hg, fun i hi => hcc i hi⟩
  · obtain ⟨g, hA, hg0, _⟩ := hc hp
    rw [hA] at ha
    injection ha with ha
    rw [← ha]; exact hg0
set_option maxRecDepth 100000 in
set_option maxHeartbeats 4000000 in
theorem p_variables (A : Option Addr) (ca : Nat) (rows : List Rw) (p : Int) (w : World) (hP : RR w w.heap.size A rows) (hr : rows.length ≤ 1000000) (hlp : ∀ j, j < rows.length → (pr rows j).length ≤ 1000000) :
    Calls Try.prog 45 #[.slice A rows.length ca, .int .i64 p] w (RowR w (vrs rows p)) := by
  have HP := Lib.hid hP
  have HLP := Lib.hid hlp
  clear hP hlp
  by_cases hp0 : p < 0
  · have HE := Lib.hid (vrs_out (rows := rows) (p := p) (by omega))
    rw [HE.out]
    go_enter Try.func45, Try.ntmps45
    go_wp2
    go_ret
    exact ⟨none, 0, rfl, RI.nil, fun _ => rfl, fun h => absurd h (by simp), Below.refl _ _⟩
  · by_cases hpn : (rows.length : Int) ≤ p
    · have HE := Lib.hid (vrs_out (rows := rows) (p := p) (by omega))
      rw [HE.out]
      go_enter Try.func45, Try.ntmps45
      go_wp2
      go_ret
      exact ⟨none, 0, rfl, RI.nil, fun _ => rfl, fun h => absurd h (by simp), Below.refl _ _⟩
    · obtain ⟨m, rfl⟩ : ∃ m : Nat, p = (m : Int) := ⟨p.toNat, by omega⟩
      have m1 : (m : Int) < (rows.length : Int) := by omega
      have m0 : (0 : Int) ≤ (m : Int) := by omega
      have ml : m < rows.length := by omega
      rw [vrs_in ml]
      obtain ⟨b, off, rfl, hb, hc⟩ := HP.out.at_ (by omega)
      have c1 := hc m ml
      have hri := (HP.out.row m ml).1
      have hlm := HLP.out m ml
      unfold rcell at c1
      have HPR : Hid (pr rows m = (rw_ rows m).2.2) := Lib.hid rfl
      unfold pr at hlm
      obtain ⟨⟨Ak, ck, l⟩, hrk⟩ : ∃ r, rw_ rows m = r := ⟨_, rfl⟩
      rw [hrk] at c1 hri hlm HPR
      dsimp only at c1 hri hlm HPR
      rw [HPR.out]
      have HO := Lib.hid (of_row Ak ck l w hri (by omega))
      clear hc hrk hri hp0 hpn
      obtain ⟨L, hL⟩ : ∃ L, setL l = L := ⟨_, rfl⟩
      rw [hL] at HO ⊢
      go_enter Try.func45, Try.ntmps45
      go_wp2_with (go_at_call 30; refine HO.out.mono ?_; rintro e w1 ⟨A1, c1, rfl, hr1, hn1, hf1, hb1⟩; have HF1 := Lib.hid hf1; have HR1 := Lib.hid hr1; have HN1 := Lib.hid hn1; have HB1 := Lib.hid hb1; clear hr1 hn1 hf1 hb1)
      go_ret
      exact ⟨_, _, rfl, HR1.out, HN1.out, HF1.out, HB1.out⟩
set_option maxRecDepth 100000 in
set_option maxHeartbeats 4000000 in
theorem r_part (A : Option Addr) (ca : Nat) (rows : List Rw) (p : Int) (w : World) (hP : RR w w.heap.size A rows) (hr : rows.length ≤ 1000000) (hlp : ∀ j, j < rows.length → (pr rows j).length ≤ 1000000) :
    Calls Try.prog 36 #[.slice A rows.length ca, .int .i64 p] w (fun e w' => ∃ v, e = .returned v ∧ Own w' w.heap.size v (vrs rows p) ∧ Below w.heap.size w w') := by
  have HP := Lib.hid hP
  have HLP := Lib.hid hlp
  clear hP hlp
  by_cases hp0 : p < 0
  · have HE := Lib.hid (vrs_out (rows := rows) (p := p) (by omega))
    rw [HE.out]
    go_enter Try.func36, Try.ntmps36
    go_wp2
    go_ret
    exact ⟨_, rfl, World.ownsRow_nil _ _ _ _, Below.refl _ _⟩
  · by_cases hpn : (rows.length : Int) ≤ p
    · have HE := Lib.hid (vrs_out (rows := rows) (p := p) (by omega))
      rw [HE.out]
      go_enter Try.func36, Try.ntmps36
      go_wp2
      go_ret
      exact ⟨_, rfl, World.ownsRow_nil _ _ _ _, Below.refl _ _⟩
    · obtain ⟨m, rfl⟩ : ∃ m : Nat, p = (m : Int) := ⟨p.toNat, by omega⟩
      have m1 : (m : Int) < (rows.length : Int) := by omega
      have m0 : (0 : Int) ≤ (m : Int) := by omega
      have ml : m < rows.length := by omega
      rw [vrs_in ml]
      obtain ⟨b, off, rfl, hb, hc⟩ := HP.out.at_ (by omega)
      have c1 := hc m ml
      have hri := (HP.out.row m ml).1
      have hlm := HLP.out m ml
      unfold rcell at c1
      have HPR : Hid (pr rows m = (rw_ rows m).2.2) := Lib.hid rfl
      unfold pr at hlm
      obtain ⟨⟨Ak, ck, l⟩, hrk⟩ : ∃ r, rw_ rows m = r := ⟨_, rfl⟩
      rw [hrk] at c1 hri hlm HPR
      dsimp only at c1 hri hlm HPR
      rw [HPR.out]
      have HO := Lib.hid (ref_set Ak ck l w hri (by omega))
      clear hc hrk hri hp0 hpn
      obtain ⟨L, hL⟩ : ∃ L, setL l = L := ⟨_, rfl⟩
      rw [hL] at HO ⊢
      go_enter Try.func36, Try.ntmps36
      go_wp2_with (go_at_call 25; refine HO.out.mono ?_; rintro e w1 ⟨v1, rfl, ho1, hb1⟩; have HO1 := Lib.hid ho1; have HB1 := Lib.hid hb1; clear ho1 hb1)
      go_ret
      exact ⟨_, rfl, HO1.out, HB1.out⟩
/-- Steps of the caller's in a row of the call's own. -/
theorem own_stp {A0 : Option Addr} {w0 w : World} {t : TypeId} {Z : Nat} {v : Value} {T : List St} (h : w.ownsRow Z t 2 v T.length (stC T)) (hT : StP w0 A0 T) (hb : Below w0.heap.size w0 w) : ∃ A c, v = .slice A T.length c ∧ StP w A T := by
  have hr : ∀ k, k < T.length → RI w w.heap.size (stAt T k).2.1 (stAt T k).2.2.2 := fun k hk => (hT.2 k hk).step hb
  rcases h.2 with ⟨rfl, h0⟩ | ⟨g, cap, cur, rfl, hg, hh, hn, hc, hsz, htk⟩
  · exact ⟨none, 0, by rw [h0], fun hp => by omega, hr⟩
  · refine ⟨_, cap, rfl, fun hp => ⟨g, 0, rfl, ?_, fun k hk => ?_⟩, hr⟩
    · rcases Nat.lt_or_ge g w.heap.size with hlt | hge
      · exact hlt
      · rw [Array.getElem?_eq_none hge] at hh; cases hh
    · have key : ∀ j, j < 2 → w.cell? ⟨g, k * 2 + j, none⟩ = (stR (stAt T k))[j]? := fun j hj => by
        rw [cell_of_row w g (k * 2 + j) cur t (0, 0) hh, ← stC_at T k j hk hj, ← htk, List.getElem?_take, if_pos (by have := stC_len T; omega), Array.getElem?_toList]
      rw [Nat.zero_add]
      exact ⟨key 0 (by omega), key 1 (by omega)⟩
theorem stC_take {T : List St} {k : Nat} (h : k < T.length) : stC (T.take (k + 1)) = stC (T.take k) ++ [.int .i64 (stAt T k).1, rcell (stAt T k).2] := by
  rw [List.take_succ_eq_append_getElem h]
  unfold stC
  rw [List.flatMap_append]
  unfold stAt stR
  simp [List.getD, List.getElem?_eq_getElem h]
theorem rowT_at {w w' : World} {t : TypeId} {Z n : Nat} {v : Value} {xs : List Value} (h : w.ownsRow Z t 2 v n xs) (hb : Below w.heap.size w w') : w'.ownsRow Z t 2 v n xs := by
  obtain ⟨h1, h2⟩ := h
  refine ⟨h1, ?_⟩
  rcases h2 with h2 | ⟨g2, cap, cur, e, hg2, hh, r⟩
  · exact .inl h2
  · have hlt : g2 < w.heap.size := by
      rcases Nat.lt_or_ge g2 w.heap.size with q | q
      · exact q
      · rw [Array.getElem?_eq_none q] at hh; cases hh
    exact .inr ⟨g2, cap, cur, e, hg2, (hb.block g2 hlt).trans hh, r⟩
theorem rowT_block {w : World} {t : TypeId} {Z n : Nat} {v : Value} {xs : List Value} (h : w.ownsRow Z t 2 v n xs) (k : Nat) (e : v.ownBlock = some k) : Z ≤ k := by
  rcases h.2 with ⟨rfl, _⟩ | ⟨g, cap, cur, rfl, hg, hh, _⟩
  · simp [Value.ownBlock] at e
  · simp [Value.ownBlock] at e; omega
def StpR (w : World) (T : List St) (e : Ending) (w' : World) : Prop := ∃ (A : Option Addr) (c : Nat), e = .returned (.slice A T.length c) ∧ StP w' A T ∧ Below w.heap.size w w'
set_option maxRecDepth 100000 in
set_option maxHeartbeats 8000000 in
theorem l_own (A : Option Addr) (ca : Nat) (T : List St) (w : World) (hT : StP w A T) (hl : T.length ≤ 1000000) :
    Calls Try.prog 11 #[.slice A T.length ca] w (StpR w T) := by
  obtain ⟨i1, hi1, hy0, hy1, hy2⟩ := info_parts info31
  have HT := Lib.hid hT
  clear hT
  go_enter Try.func11, Try.ntmps11
  go_wp2
  go_loopw [3, 8] (fun v i wr => ∃ k : Nat, k ≤ T.length ∧ i = .int .i64 (k : Int) ∧ Hid (wr.ownsRow w.heap.size 31 2 v k (stC (T.take k))) ∧ Below w.heap.size w wr) (fun _ i _ => T.length - (intOf i).toNat)
  case atStart => exact ⟨0, Nat.zero_le _, rfl, Lib.hid (World.ownsRow_nil _ _ _ _), Below.refl _ _⟩
  case round =>
    obtain ⟨k, hk, rfl, HO, hb⟩ := hrel
    have hbs := hb.size
    by_cases hkl : k < T.length
    · have h1 : (k : Int) < (T.length : Int) := by omega
      have h0 : (0 : Int) ≤ (k : Int) := by omega
      obtain ⟨b, off, rfl, hbl, hc⟩ := (HT.out.1) (by omega)
      obtain ⟨c1, c2⟩ := hc k hkl
      have e1 := (hb.cell (p := ⟨b, off + k * 2, none⟩) hbl).trans c1
      have e2 := (hb.cell (p := ⟨b, off + k * 2 + 1, none⟩) hbl).trans c2
      unfold rcell at e2
      have HST : Hid (stC (T.take (k + 1)) = stC (T.take k) ++ [.int .i64 (stAt T k).1, .slice (stAt T k).2.1 (stAt T k).2.2.2.length (stAt T k).2.2.1]) := Lib.hid (stC_take hkl)
      generalize (stAt T k).1 = p at *
      generalize (stAt T k).2.1 = Ak at *
      generalize (stAt T k).2.2.1 = ck at *
      generalize (stAt T k).2.2.2.length = lk at *
      have HB := Lib.hid hb
      clear hc c1 c2 hb
      go_upto_region 5 with (fail)
      obtain ⟨W, hW⟩ : ∃ W, wr.alloc (.cells #[.int .i64 p, .slice Ak lk ck] 32) = W := ⟨_, rfl⟩
      have HLW : Hid (Below wr.heap.size wr W) := Lib.hid (by rw [← hW]; exact (Below.refl _ _).alloc (Nat.le_refl _) _)
      have HBW : Hid (Below w.heap.size w W) := Lib.hid (HB.out.trans (HLW.out.mono hbs))
      have HOW := Lib.hid (rowT_at HO.out HLW.out)
      have x0 : W.cell? ⟨wr.heap.size, 0, none⟩ = some (.int .i64 p) := by rw [← hW]; exact (Blk.new wr 32 _).cell 0
      have x1 : W.cell? ⟨wr.heap.size, 1, none⟩ = some (.slice Ak lk ck) := by rw [← hW]; exact (Blk.new wr 32 _).cell 1
      have x2 : wr.heap.size < W.heap.size := by rw [← hW]; exact (Blk.new wr 32 #[.int .i64 p, .slice Ak lk ck]).lt
      have x3 := HBW.out.size
      have x4 : k ≤ 1000000 := by omega
      rw [hW]
      clear hW e1 e2 HO
      go_wp2_with (at_builtin; refine wpList_append_own_at _ rfl _ _ 26 rfl w.heap.size 31 i1 _ 2 32 Try.underlying26 hi1 hy0 hy1 hy2 rfl (by decide) _ k (stC (T.take k)) rfl (World.ownsRow.alloc HOW.out _) ⟨W.heap.size, 0, none⟩ 1 1 [.int .i64 p, .slice Ak lk ck] rfl rfl (cells_list W 31 [.int .i64 p, .slice Ak lk ck]) (by simp [Value.oneCell']) (max_ok (by omega)) (by omega) (by simp; omega) ?_; intro v8 w8 hO8 hg8 _ hat8; have HO8 : Hid (w8.ownsRow w.heap.size 31 2 v8 (k + 1) (stC (T.take (k + 1)))) := Lib.hid (by rw [HST.out]; exact hO8); have HB8 := Lib.hid ((HBW.out.alloc x3 _).grown hg8 (by simp; omega) (fun j e => rowT_block HOW.out j e)); clear hO8 hg8 hat8)
      go_roundw
      case rel => exact ⟨k + 1, by omega, by go_num, HO8, HB8.out⟩
      case measure => simp [intOf]; omega
    · obtain rfl : k = T.length := by omega
      have h1 : ¬ (T.length : Int) < (T.length : Int) := by omega
      have ho := HO.out
      rw [List.take_length] at ho
      obtain ⟨A', c', rfl, hs⟩ := own_stp ho HT.out hb
      have HS := Lib.hid hs
      have HB := Lib.hid hb
      clear ho hs HO hb
      go_wp2
      go_ret
      exact ⟨A', c', rfl, HS.out, HB.out⟩
end Go.Proofs.Ytjohdkcgodaeiaa
