/- Plan of a new manager, Right; layer 28 (events). -/
import Derived.Test.YtfppplalgdopjaaDoorE3
import Derived.Deep.DeepMust
namespace Go.Proofs.YtfppplalgdopjaaDoor
open Go.RowKit

def planF (n : Int) : List Ev → Int
  | [] => 0
  | x :: t => if flawE n x = 0 then planF n t else flawE n x
def planR (n : Int) (L : List Ev) : Int := if 256 < L.length then 18 else planF n L
theorem planF_drop {n : Int} {L : List Ev} {k : Nat} {x : Ev} (h : L[k]? = some x) : planF n (L.drop k) = if flawE n x = 0 then planF n (L.drop (k + 1)) else flawE n x := by
  have hlt : k < L.length := by
    rcases Nat.lt_or_ge k L.length with c | c
    · exact c
    · rw [List.getElem?_eq_none c] at h; cases h
  rw [List.drop_eq_getElem_cons hlt]
  rw [List.getElem?_eq_getElem hlt] at h
  cases h
  rfl
theorem evC_cells : ∀ (L : List Ev) (u : Value), u ∈ evC L → u.oneCell' = true := by
  intro L u hu
  unfold evC at hu
  rw [List.mem_flatMap] at hu
  obtain ⟨x, _, hx⟩ := hu
  simp only [evR, List.mem_cons, List.not_mem_nil, or_false] at hx
  rcases hx with rfl | rfl | rfl <;> rfl
/-- append of a row of events to nil: the world only grows. -/
theorem wpList_app_evs {ops : Array Oper} {rest : List Oper} {o : Oper} {a : Act} {Q : Exit → Act → World → Prop} (hgd : o.guard = none) (s x : Operand)
    (ho : o.op = .call { callee := .builtin .append, args := #[s, x], argTypes := #[22, 22] }) (W : World) (A : Option Addr) (c Bx : Nat) (L : List Ev) (hs : a.eval s = .slice none 0 0) (hx : a.eval x = .slice A L.length c) (hR : RowG W Bx A c (evC L)) (hl : L.length ≤ 1000000)
    (h : ∀ A' n' c' w', Below W.heap.size W w' → wpList Tryd.prog ops Q rest (a.put o.dst (.slice A' n' c')) w') :
    wpList Tryd.prog ops Q (o :: rest) a W := by
  obtain ⟨i0, hi0, hz0, hz1, hz2⟩ := info_parts info47
  rcases hR with ⟨hL, hA⟩ | ⟨b, off, rfl, hb, hc⟩
  · have hl0 : L.length = 0 := by have := evC_len L; rw [hL] at this; simp at this; omega
    rw [hl0] at hx
    cases A with
    | none =>
      obtain rfl := hA rfl
      refine wpList_plain hgd fun K hK => ?_
      have hr := run_append_owned_none (P := Tryd.prog) (w := W) (base := 0) 22 o.type 47 i0 3 Tryd.underlying22 hi0 (.slice none 0 0) 0 [] (World.ownsRow_nil _ _ _ _)
      unfold Oper.wp execOp
      simp only [ho, resolve, invoke, builtin, Sem.run_bind, Sem.run_pure, Result.andThen_ok, List.map_toArray, List.map_cons, List.map_nil, hs, hx, hr]
      exact hK _ _ (h _ _ _ _ (Below.refl _ _))
    | some ad =>
      refine wpList_append_own_at _ hgd s x 22 ho W.heap.size 47 i0 _ 3 24 Tryd.underlying22 hi0 hz0 hz1 hz2 rfl (by decide) (.slice none 0 0) 0 [] hs (World.ownsRow_nil _ _ _ _) ad 0 c [] hx rfl (fun j u hj => by simp at hj) (fun u hu => by simp at hu) (by unfold maxLen; omega) (by omega) (Nat.le_refl _) ?_
      intro v' w' hO hg _ _
      obtain ⟨A', c', rfl⟩ := owns_slice hO
      exact h _ _ _ w' ((Below.refl _ _).grown hg (Nat.le_refl _) (fun k e => by simp [Value.ownBlock] at e))
  · refine wpList_append_own_at _ hgd s x 22 ho W.heap.size 47 i0 _ 3 24 Tryd.underlying22 hi0 hz0 hz1 hz2 rfl (by decide) (.slice none 0 0) 0 [] hs (World.ownsRow_nil _ _ _ _) ⟨b, off, none⟩ L.length c (evC L) hx (evC_len L) (fun j u hj => ?_) (evC_cells L) (by unfold maxLen; omega) (by omega) (Nat.le_refl _) ?_
    · have e : (⟨b, off, none⟩ : Addr).add j = ⟨b, off + j, none⟩ := by unfold Addr.add; split <;> simp_all
      rw [e]; exact hc j u hj
    · intro v' w' hO hg _ _
      obtain ⟨A', c', rfl⟩ := owns_slice hO
      exact h _ _ _ w' ((Below.refl _ _).grown hg (Nat.le_refl _) (fun k e => by simp [Value.ownBlock] at e))
set_option maxRecDepth 100000 in
set_option maxHeartbeats 4000000 in
theorem e_Plan (g n : Nat) (L : List Ev) (A : Option Addr) (c : Nat) (w : World) (hn : n ≤ 64) (hM : Man w g n (.slice none 0 0)) (hR : RowG w g A c (evC L)) (B : Nat) (hB : B ≤ g) (hl : L.length ≤ 1000000) :
    Calls Tryd.prog 13 #[.pointer (some ⟨g, 0, none⟩), .slice A L.length c] w fun e w' => e = .returned (.int .i64 (planR n L)) ∧ Below B w w' := by
  obtain ⟨s, r, m, q, hK, A', c', hc', hs⟩ := hM.cells
  have HMan := Lib.hid hM
  have HFl : Hid (∀ wx x, Below w.heap.size w wx → Calls Tryd.prog 27 #[.pointer (some ⟨g, 0, none⟩), .agg #[.int .i64 x.a, .int .i64 x.k, .int .i64 x.l]] wx fun e w' => e = .returned (.int .i64 (flawE n x)) ∧ Below wx.heap.size wx w') := Lib.hid (fun wx x hb => e_flaw g n _ x wx hn (hM.below hb))
  have HK := Lib.hid hK
  have HRg := Lib.hid hR
  have HR : Hid (RowG w w.heap.size A c (evC L)) := Lib.hid (hR.more (Nat.le_of_lt hK.lt))
  have c4 : w.cell? ⟨g, 4, none⟩ = some (.slice none 0 0) := hK.cell 4
  have hg := hK.lt
  clear hM hK hR
  by_cases hmany : 256 < L.length
  · have k1 : (256 : Int) < (L.length : Int) := by omega
    rw [show planR n L = 18 from if_pos hmany]
    go_enter Tryd.func13, Tryd.ntmps13
    go_wp2
    go_ret
    exact ⟨rfl, Below.refl _ _⟩
  · have k1 : ¬ (256 : Int) < (L.length : Int) := by omega
    rw [show planR n L = planF n L from if_neg hmany]
    go_enter Tryd.func13, Tryd.ntmps13
    go_wp2
    go_loopw [21] (fun i wr => ∃ k : Nat, k ≤ L.length ∧ i = .int .i64 (k : Int) ∧ planF n (L.drop k) = planF n L ∧ Hid (Below w.heap.size w wr)) (fun i _ => L.length - (intOf i).toNat)
    case atStart => exact ⟨0, Nat.zero_le _, rfl, rfl, Lib.hid (Below.refl _ _)⟩
    case round =>
      obtain ⟨k, hk, rfl, hp, HB⟩ := hrel
      by_cases hlt : k < L.length
      · have l1 : (k : Int) < (L.length : Int) := by omega
        have l0 : (0 : Int) ≤ (k : Int) := by omega
        obtain ⟨b1, f1, rfl, hb1, hc1⟩ := HR.out.out (by rw [evC_len]; omega)
        obtain ⟨x, hx⟩ : ∃ x, L[k]? = some x := ⟨_, List.getElem?_eq_getElem hlt⟩
        obtain ⟨n0, n1, n2⟩ := ev_at hx
        have y0 := (HB.out.cell (p := ⟨b1, f1 + k * 3, none⟩) hb1).trans (hc1 _ _ n0)
        have y1 := (HB.out.cell (p := ⟨b1, f1 + (k * 3 + 1), none⟩) hb1).trans (hc1 _ _ n1)
        have y2 := (HB.out.cell (p := ⟨b1, f1 + (k * 3 + 2), none⟩) hb1).trans (hc1 _ _ n2)
        rw [← Nat.add_assoc] at y1 y2
        rw [planF_drop hx] at hp
        clear hc1 n0 n1 n2 hx
        have HP := Lib.hid hp
        clear hp
        go_upto_region 8 with (fail)
        have HB1 : Hid (Below w.heap.size w (wr.alloc (.cells #[.int .i64 x.a, .int .i64 x.k, .int .i64 x.l] 47))) := Lib.hid (HB.out.alloc HB.out.size _)
        go_upto_region 9 with (go_at_call 27; (with_reducible refine (HFl.out _ x HB1.out).mono ?_); rintro e w5 ⟨rfl, hb5⟩; have HB5 := Lib.hid (HB1.out.trans (hb5.mono HB1.out.size)); clear hb5)
        by_cases hf : flawE n x = 0
        · have hf1 : (flawE n x != 0) = false := by simp [hf]
          have hp := HP.out
          rw [if_pos hf] at hp
          have HP2 := Lib.hid hp
          clear hp
          go_wp2
          go_roundw
          case rel => exact ⟨k + 1, by omega, by go_num, HP2.out, HB5⟩
          case measure => simp [intOf]; omega
        · have hf1 : (flawE n x != 0) = true := by simp [hf]
          have hp := HP.out
          rw [if_neg hf] at hp
          have HP2 := Lib.hid hp
          clear hp hf
          go_wp2
          go_ret
          exact ⟨by rw [← HP2.out]; rfl, HB5.out.mono (by omega)⟩
      · have l1 : ¬ (k : Int) < (L.length : Int) := by omega
        obtain rfl : k = L.length := by omega
        have hp0 : planF n L = 0 := by rw [← hp, List.drop_length]; rfl
        have HP0 := Lib.hid hp0
        clear hp hp0
        have HKr := Lib.hid (HK.out.below HB.out hg)
        have d4 : wr.cell? ⟨g, 4, none⟩ = some (.slice none 0 0) := HKr.out.cell 4
        have d5 := HKr.out.frozen 4
        have d6 := HKr.out.frozen 5
        have d7 := HKr.out.lt
        have d8 : wr.cell? ⟨g, 5, none⟩ = some (.int .i64 0) := HKr.out.cell 5
        have HW1 : Hid (Below B w (wr.setCell ⟨g, 5, none⟩ (.int .i64 0))) := Lib.hid ((HB.out.mono (by omega)).setCell (p := ⟨g, 5, none⟩) hB _)
        have HRW : Hid (RowG (wr.setCell ⟨g, 5, none⟩ (.int .i64 0)) g A c (evC L)) := Lib.hid (HRg.out.below ((HB.out.mono (Nat.le_of_lt hg)).setCell (p := ⟨g, 5, none⟩) (Nat.le_refl _) _))
        have HKW : Hid (Blk (wr.setCell ⟨g, 5, none⟩ (.int .i64 0)) g 71 #[.pointer (some ⟨s, 0, none⟩), r, m, .int .i64 2, .slice none 0 0, .int .i64 0, q]) := Lib.hid (HKr.out.set_ 5 _)
        go_upto_region 14 with (fail)
        obtain ⟨wz, hwz⟩ : ∃ wz, wr.setCell ⟨g, 5, none⟩ (.int .i64 0) = wz := ⟨_, rfl⟩
        rw [hwz] at HRW HKW HW1 ⊢
        clear hwz d4 d5 d6 d7 d8
        have e4 : wz.cell? ⟨g, 4, none⟩ = some (.slice none 0 0) := HKW.out.cell 4
        have e5 := HKW.out.frozen 4
        have e6 := HKW.out.lt
        go_upto_region 15 with (at_builtin; (refine wpList_app_evs rfl (.tmp 45) (.tmp 46) rfl wz A c g L rfl rfl HRW.out hl ?_); intro A9 n9 c9 w9 hb9; have f6 := Nat.lt_of_lt_of_le e6 hb9.size; have f5 : w9.frozen? ⟨g, 4, none⟩ = false := (hb9.frozen (p := ⟨g, 4, none⟩) e6).trans e5; have f4 : w9.cell? ⟨g, 4, none⟩ = some (.slice none 0 0) := (hb9.cell (p := ⟨g, 4, none⟩) e6).trans e4; have HB9 : Hid (Below B w w9) := Lib.hid (HW1.out.trans (hb9.mono (by omega))); clear hb9)
        have HBF := Lib.hid (HB9.out.setCell (p := ⟨g, 4, none⟩) hB (.slice A9 n9 c9))
        go_wp2
        go_ret
        exact ⟨by rw [HP0.out]; rfl, HBF.out⟩
end Go.Proofs.YtfppplalgdopjaaDoor
