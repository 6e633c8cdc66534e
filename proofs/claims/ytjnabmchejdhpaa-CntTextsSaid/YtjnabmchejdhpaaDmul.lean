/- Contract of the specification's Mul of layer 4 (cnt), over the translation. -/
import Derived.Test.YtjnabmchejdhpaaDcmp
namespace Go.Proofs.Ytjnabmchejdhpaa
open Go.RowKit

theorem step_app_own {ops : Array Oper} {o : Oper} {a : Act} {w : World} {K : Act → World → Prop} {Q : Exit → Act → World → Prop} {E : Prop} (hgd : o.guard = none) (s x : Operand) (t tx : TypeId)
    (ho : o.op = .call { callee := .builtin .append, args := #[s, x], argTypes := #[t, tx] }) (ht : Try.prog.underlying t = some (.slice 3)) (htx : Try.prog.underlying tx = some (.slice 3))
    (B : Nat) (v : Value) (xs : List Int) (hs : a.eval s = v) (hown : OwnT w B v xs) (A : Option Addr) (c : Nat) (news : List Int) (hx : a.eval x = .slice A news.length c) (hR : RD w w.heap.size A news) (hA : A = none → c = 0)
    (hB : B ≤ w.heap.size) (hlen : xs.length + news.length ≤ 1000000000) (hK : ∀ v' w', OwnT w' B v' (xs ++ news) → Below B w w' → K (a.put o.dst v') w') :
    if Region.wanted o (yielded ops a.tmps) = true then Oper.wp Try.prog o a w K Q else E := by
  obtain ⟨i0, hi0, hz0, hz1, hz2⟩ := info_parts info3
  have hw : Region.wanted o (yielded ops a.tmps) = true := by simp [Region.wanted, hgd]
  rw [if_pos hw]
  cases A with
  | some ad =>
    obtain ⟨v', w', hr, h2, h3, h4⟩ := run_append_own (P := Try.prog) w B t o.type 3 i0 (.int .i64 0) 1 8 ht hi0 hz0 hz1 hz2 rfl (by decide) v xs.length (xs.map (Value.int .i64)) hown ad news.length c (news.map (Value.int .i64)) (by simp) (fun j u hj => (hR.src j u hj).1) (by intro u hu; obtain ⟨y, _, rfl⟩ := List.mem_map.1 hu; rfl) (by unfold maxLen; omega) (by omega) hB
    have hr2 : (Builtin.append_ #[t, tx] o.type #[v, .slice (some ad) news.length c]).run Try.prog w = .ok v' w' := by
      rcases hown.2 with ⟨e0, _⟩ | ⟨g0, cap0, cur0, e0, _⟩
      all_goals
        rw [e0] at hr ⊢
        exact (append_tx _ _ _ _ o.type t tx 3 w ht htx).trans hr
    unfold Oper.wp
    simp [execOp, ho, resolve, invoke, builtin, hs, hx, hr2, Result.andThen]
    refine hK v' w' ?_ ((Below.refl _ _).grown h3 hB (fun k e => OwnT.block (l := xs) hown k e))
    unfold OwnT
    rw [List.length_append, List.map_append]; exact h2
  | none =>
    obtain rfl : c = 0 := hA rfl
    have hn : news = [] := by
      rcases news with _ | ⟨y, news⟩
      · rfl
      · obtain ⟨b, f, e, _⟩ := hR (by simp); cases e
    subst hn
    have hr := run_append_owned_none (P := Try.prog) (w := w) B t o.type 3 i0 1 ht hi0 v xs.length (xs.map (Value.int .i64)) hown
    have hr2 : (Builtin.append_ #[t, tx] o.type #[v, .slice none 0 0]).run Try.prog w = .ok v w := by
      rcases hown.2 with ⟨e0, _⟩ | ⟨g0, cap0, cur0, e0, _⟩
      all_goals
        rw [e0] at hr ⊢
        exact (append_tx _ _ _ _ o.type t tx 3 w ht htx).trans hr
    have hx' : a.eval x = .slice none 0 0 := hx
    unfold Oper.wp
    simp [execOp, ho, resolve, invoke, builtin, hs, hx', hr2, Result.andThen]
    exact hK v w (by rw [List.append_nil]; exact hown) (Below.refl _ _)
theorem own_one (w : World) (x : Int) : OwnT (w.alloc (.cells #[.int .i64 x] 3)) w.heap.size (.slice (some ⟨w.heap.size, 0, none⟩) 1 1) [x] :=
  ⟨rfl, .inr ⟨w.heap.size, 1, #[.int .i64 x], rfl, Nat.le_refl _, heap_alloc_new w _, Nat.le_refl _, by unfold maxLen; omega, rfl, rfl⟩⟩
theorem mul_stepT {a b : List Int} {k : Nat} {x : Int} (hx : x = valT a * valT (b.drop (k + 1))) : 10 * x + li b k * valT a = valT a * valT (b.drop k) := by
  rw [val_dropT b k, hx, Int.mul_add, Int.mul_comm (li b k), Int.mul_left_comm]
  omega
set_option maxHeartbeats 4000000 in
theorem ref_Mul (A B : Option Addr) (ca cb : Nat) (a b : List Int) (w : World) (hA : Dn w A ca a) (hB : Dn w B cb b) (hal : a.length ≤ 1000000) (hbl : b.length ≤ 1000000) :
    Calls Try.prog 22 #[.slice A a.length ca, .slice B b.length cb] w fun e w' => ResT w w' (valT a * valT b) (a.length + 1 + 2 * b.length) e := by
  have HA := Lib.hid hA
  have HB := Lib.hid hB
  clear hA hB
  go_enter Try.func22, Try.ntmps22
  go_wp2
  go_loopw [5, 6] (fun v i wr => ∃ (k : Nat), k ≤ b.length ∧ i = .int .i64 ((k : Int) - 1) ∧ Hid (ResT w wr (valT a * valT (b.drop k)) (a.length + 1 + 2 * (b.length - k)) (.returned v)) ∧ Below w.heap.size w wr) (fun _ i _ => (intOf i + 1).toNat)
  case atStart => exact ⟨b.length, by omega, rfl, Lib.hid ⟨none, 0, [], rfl, ⟨RD.nil, DigT.nil, Nat.le_refl _, Nat.zero_le _, fun _ => rfl⟩, rfl, by rw [List.drop_length]; show (0 : Int) = valT a * 0; omega, by simp, Below.refl _ _⟩, Below.refl _ _⟩
  case round =>
    obtain ⟨k, hk, rfl, HR, hb⟩ := hrel
    have hsz := hb.size
    rcases k with _ | k
    · have h0 : ¬ (0 : Int) ≤ ((0 : Nat) : Int) - 1 := by omega
      have HE := Lib.hid HR.out
      clear HR
      go_wp2
      go_ret
      have h := HE.out
      rw [List.drop_zero] at h
      exact h.weak (by omega)
    · obtain ⟨Ao, co, o, e0, hD, hn, hv, hlo, _⟩ := HR.out
      injection e0 with e0
      subst e0
      have HD := Lib.hid hD
      have HV := Lib.hid hv
      obtain ⟨b1, f, rfl, hg1, hc1⟩ := HB.out.row (by omega)
      have e1 := (hb.cell (p := ⟨b1, f + k, none⟩) hg1).trans (hc1 k (by omega))
      have hk' : (k : Int) < (b.length : Int) := by omega
      have ek : (((k + 1 : Nat) : Int) - 1) = (k : Int) := by omega
      have hd1 := li_digT HB.out.dig k
      clear hD hn hv hc1 HR
      rw [ek]
      have e1d : wr.drew.cell? ⟨b1, f + k, none⟩ = some (.int .i64 (li b k)) := e1
      have e1a : (wr.drew.alloc (.cells #[.int .i64 0] 3)).cell? ⟨b1, f + k, none⟩ = some (.int .i64 (li b k)) := Lib.cell?_alloc_some _ e1d
      have hbd : b1 < wr.drew.heap.size := by show b1 < wr.heap.size; omega
      have hbd0 : Below w.heap.size w wr.drew := hb.drew
      have hba : Below wr.drew.heap.size wr.drew (wr.drew.alloc (.cells #[.int .i64 0] 3)) := (Below.refl _ _).alloc (Nat.le_refl _) _
      have hszd : wr.drew.heap.size ≤ (wr.drew.alloc (.cells #[.int .i64 0] 3)).heap.size := hba.size
      have HDa : Hid (Dn (wr.drew.alloc (.cells #[.int .i64 0] 3)) Ao co o) := Lib.hid ((HD.out.step (Below.refl _ _).drew).step hba)
      have HO1 := Lib.hid (own_one wr.drew 0)
      have HDG : Hid (DigT ([0] ++ o)) := Lib.hid (DigT.app (DigT.cons (by omega) (by omega) DigT.nil) HD.out.dig)
      have hq0 : ([0] : List Int).length + o.length ≤ 1000000000 := by simp; omega
      have hq1 : ([0] ++ o).length ≤ 1000000000 := by simp; omega
      have hq2 : a.length ≤ 100000000 := by omega
      have hx0 : 0 ≤ li b k := by omega
      have hx1 : li b k ≤ 100000 := by omega
      have hx2 : Hid (li b k ≤ pwT 1) := Lib.hid (by show _ ≤ 10 * 1; omega)
      have HB2 : Hid (∀ n, n ≤ ([0] ++ o).length → n ≤ a.length + 1 + 2 * (b.length - (k + 1)) + 1) := Lib.hid (fun n h => by simp at h; omega)
      have HB3 : Hid (∀ n, n ≤ a.length + 1 → n ≤ a.length + 1 + 2 * (b.length - (k + 1)) + 1) := Lib.hid (fun n h => by omega)
      have HB4 : Hid (a.length + 1 + 2 * (b.length - (k + 1)) + 1 ≤ 100000000) := Lib.hid (by omega)
      have HAd : Hid (Dn wr.drew A ca a) := Lib.hid (HA.out.step hbd0)
      go_wp2_with fail
      go_region_held3 (fun wx => wx.cell? ⟨b1, f + k, none⟩ = some (.int .i64 (li b k))) (first | assumption | go_keep) (first
        | (refine step_app_own rfl (.tmp 14) (.tmp 15) 27 28 rfl Try.underlying27 Try.underlying28 wr.drew.heap.size (.slice (some ⟨wr.drew.heap.size, 0, none⟩) 1 1) [0] rfl HO1.out Ao co o rfl HDa.out.row HDa.out.nil hszd hq0 ?_; intro v1 w1 ho1 hb1; obtain ⟨A1, c1, rfl, hN1⟩ := ho1.dn HDG.out; have HN1 := Lib.hid hN1; have hb01 : Below wr.drew.heap.size wr.drew w1 := hba.trans hb1; have e1c := (hb01.cell (p := ⟨b1, f + k, none⟩) hbd).trans e1d; have hbd1 : b1 < w1.heap.size := Nat.lt_of_lt_of_le hbd hb01.size; clear hN1 ho1)
        | (go_at_call 34; refine (ref_cut A1 c1 ([0] ++ o) _ HN1.out hq1).mono ?_; rintro e w2 ⟨A2, c2, l2, rfl, hD2, hn2, hv2, hm2, hb2⟩; have HD2 := Lib.hid hD2; have HV2 := Lib.hid hv2; have e2d := (hb2.cell (p := ⟨b1, f + k, none⟩) hbd1).trans e1c; have hbd2 : b1 < w2.heap.size := Nat.lt_of_lt_of_le hbd1 hb2.size; have hb02 := step2 hb01 hb2; clear hD2 hn2 hv2)
        | (go_at_call 35; refine (ref_Times A ca a (li b k) 1 _ (HAd.out.step hb02) hq2 hx0 hx1 hx2 (by decide)).mono ?_; rintro e w3 ⟨A3, c3, l3, rfl, hD3, hn3, hv3, hm3, hb3⟩; have HD3 := Lib.hid hD3; have HV3 := Lib.hid hv3; have e3d := (hb3.cell (p := ⟨b1, f + k, none⟩) hbd2).trans e2d; have hbd3 : b1 < w3.heap.size := Nat.lt_of_lt_of_le hbd2 hb3.size; clear hD3 hn3 hv3)
        | (go_at_call 9; refine (ref_Add _ _ _ _ _ _ (a.length + 1 + 2 * (b.length - (k + 1)) + 1) _ (HD2.out.step hb3) HD3.out (HB2.out _ hm2) (HB3.out _ hm3) HB4.out).mono ?_; rintro e w4 ⟨A4, c4, l4, rfl, hD4, hn4, hv4, hm4, hb4⟩; have HD4 := Lib.hid hD4; have HV4 := Lib.hid hv4; have HN4 := Lib.hid hn4; have e4d := (hb4.cell (p := ⟨b1, f + k, none⟩) hbd3).trans e3d; clear hD4 hv4 hn4))
      have hbe : Below w.heap.size w w4 := step2 (step2 (step2 hbd0 hb02) hb3) hb4
      have HVE : Hid (valT l4 = valT a * valT (b.drop k)) := Lib.hid (by
        rw [HV4.out, HV3.out, HV2.out]
        have h := mul_stepT (k := k) HV.out
        have e : valT ([0] ++ o) = 10 * valT o := by show 0 + 10 * valT o = _; omega
        rw [e, ← h])
      go_wp2
      go_roundw
      case rel => exact ⟨k, by omega, by go_num, Lib.hid ⟨A4, c4, l4, rfl, HD4.out, HN4.out, HVE.out, by omega, hbe⟩, hbe⟩
      case measure => simp [intOf]; try omega
end Go.Proofs.Ytjnabmchejdhpaa
