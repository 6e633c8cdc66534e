/- Contract of the specification's cut of layer 4 (cnt), over the translation. -/
import Derived.Test.YtjnabmchejdhpaaDrow
namespace Go.Proofs.Ytjnabmchejdhpaa
open Go.RowKit

theorem append_tx (b : Option Addr) (l c : Nat) (x : Value) (ty t tx e : TypeId) (w : World) (ht : Try.prog.underlying t = some (.slice e)) (htx : Try.prog.underlying tx = some (.slice e)) :
    (Builtin.append_ #[t, tx] ty #[.slice b l c, x]).run Try.prog w = (Builtin.append_ #[t, t] ty #[.slice b l c, x]).run Try.prog w := by
  unfold Builtin.append_
  simp [Sem.run_bind, run_underlying ht, run_underlying htx]
theorem wpList_append_tx {w : World} {ops : Array Oper} {rest : List Oper} {o : Oper} {a : Act} {Q : Exit → Act → World → Prop} (hgd : o.guard = none) (s x : Operand) (t tx : TypeId)
    (ho : o.op = .call { callee := .builtin .append, args := #[s, x], argTypes := #[t, tx] })
    (base : Nat) (e : TypeId) (i : TypeInfo) (z : Value) (size bytes : Nat) (ht : Try.prog.underlying t = some (.slice e)) (htx : Try.prog.underlying tx = some (.slice e)) (hi : Try.prog.info? e = some i) (hz : i.zero = some z)
    (hsize : i.size = size) (hby : i.bytes = bytes) (hzs : z.cells.size = size) (hsz : 0 < size)
    (v : Value) (n : Nat) (xs : List Value) (hs : a.eval s = v) (hown : w.ownsRow base e size v n xs)
    (ad : Addr) (m c : Nat) (news : List Value) (hx : a.eval x = .slice (some ad) m c) (hl : news.length = m * size) (hnews : ∀ j u, news[j]? = some u → w.cell? (ad.add j) = some u) (h1 : ∀ u ∈ news, u.oneCell' = true)
    (h63 : n + m ≤ maxLen) (hbytes : (n + m) * bytes ≤ 140737488355328) (hbase : base ≤ w.heap.size)
    (h : ∀ v' w', w'.ownsRow base e size v' (n + m) (xs ++ news) → w.grownBy w' v.ownBlock → (v' = .slice none 0 0 ↔ v = .slice none 0 0 ∧ m = 0) → wpList Try.prog ops Q rest (a.put o.dst v') w') : wpList Try.prog ops Q (o :: rest) a w := by
  refine wpList_plain hgd fun K hK => ?_
  obtain ⟨v', w', hr, h2, h3, h4⟩ := run_append_own (P := Try.prog) w base t o.type e i z size bytes ht hi hz hsize hby hzs hsz v n xs hown ad m c news hl hnews h1 h63 hbytes hbase
  have hr2 : (Builtin.append_ #[t, tx] o.type #[v, .slice (some ad) m c]).run Try.prog w = .ok v' w' := by
    rcases hown.2 with ⟨e0, _⟩ | ⟨g0, cap0, cur0, e0, _⟩
    all_goals
      rw [e0] at hr ⊢
      exact (append_tx _ _ _ _ o.type t tx e w ht htx).trans hr
  unfold Oper.wp
  simp [execOp, ho, resolve, invoke, builtin, hs, hx, hr2, Result.andThen]
  exact hK _ _ (h v' w' h2 h3 h4)
theorem wpList_append_tx_none {w : World} {ops : Array Oper} {rest : List Oper} {o : Oper} {a : Act} {Q : Exit → Act → World → Prop} (hgd : o.guard = none) (s x : Operand) (t tx : TypeId)
    (ho : o.op = .call { callee := .builtin .append, args := #[s, x], argTypes := #[t, tx] })
    (base : Nat) (e : TypeId) (i : TypeInfo) (size : Nat) (ht : Try.prog.underlying t = some (.slice e)) (htx : Try.prog.underlying tx = some (.slice e)) (hi : Try.prog.info? e = some i)
    (v : Value) (n : Nat) (xs : List Value) (hs : a.eval s = v) (hown : w.ownsRow base e size v n xs) (hx : a.eval x = .slice none 0 0)
    (h : wpList Try.prog ops Q rest (a.put o.dst v) w) : wpList Try.prog ops Q (o :: rest) a w := by
  refine wpList_plain hgd fun K hK => ?_
  have hr := run_append_owned_none (P := Try.prog) (w := w) base t o.type e i size ht hi v n xs hown
  have hr2 : (Builtin.append_ #[t, tx] o.type #[v, .slice none 0 0]).run Try.prog w = .ok v w := by
    rcases hown.2 with ⟨e0, _⟩ | ⟨g0, cap0, cur0, e0, _⟩
    all_goals
      rw [e0] at hr ⊢
      exact (append_tx _ _ _ _ o.type t tx e w ht htx).trans hr
  unfold Oper.wp
  simp [execOp, ho, resolve, invoke, builtin, hs, hx, hr2, Result.andThen]
  exact hK _ _ h

theorem trimNT_keep {l : List Int} {k : Nat} (h : li l k ≠ 0) : trimNT l (k + 1) = k + 1 := by
  have h' : ¬ l.getD k 0 = 0 := h
  unfold trimNT; rw [if_neg h']
theorem trimNT_pred {l : List Int} {k : Nat} (h : li l k = 0) : trimNT l (k + 1) = trimNT l k := by
  have h' : l.getD k 0 = 0 := h
  conv => lhs; unfold trimNT
  rw [if_pos h']
theorem RD.take {w : World} {B : Nat} {A : Option Addr} {l : List Int} (h : RD w B A l) (k : Nat) : RD w B A (l.take k) := fun hp => by
  have hl : 0 < l.length := by rw [List.length_take] at hp; omega
  obtain ⟨b, off, e, hB, hc⟩ := h hl
  refine ⟨b, off, e, hB, fun i hi => ?_⟩
  rw [List.length_take] at hi
  rw [hc i (by omega)]
  unfold li
  simp [List.getD, show i < k by omega]
set_option maxHeartbeats 2000000 in
theorem ref_cut (A : Option Addr) (ca : Nat) (l : List Int) (w : World) (h : Dn w A ca l) (hl : l.length ≤ 1000000000) :
    Calls Try.prog 34 #[.slice A l.length ca] w fun e w' => ResT w w' (valT l) l.length e := by
  obtain ⟨i0, hi0, hz0, hz1, hz2⟩ := info_parts info3
  have H := Lib.hid h
  have hcap := h.cap
  have hmax := h.max
  have hnil := h.nil
  clear h
  have hEND : ∀ (k : Nat) (wr : World) (v : Value) (wz : World), trimNT l l.length = k → Below w.heap.size w wr → World.ownsRow wz wr.heap.size 3 1 v (0 + k) ([] ++ (l.take k).map (Value.int .i64)) → Below wr.heap.size wr wz → ResT w wz (valT l) l.length (.returned v) := by
    intro k wr v wz hk hb ho hb2
    have e : l.take k = trimLT l := by unfold trimLT; rw [hk]
    have hkl : (l.take k).length = k := by rw [e, trimL_lenT, hk]
    have hO : OwnT wz wr.heap.size v (l.take k) := by unfold OwnT; rw [hkl]; simpa using ho
    obtain ⟨D, d, rfl, hN⟩ := hO.dn (H.out.dig.take k)
    refine ⟨D, d, l.take k, rfl, hN, by rw [e]; exact trimL_nrmT l, by rw [e, trimL_valT], ?_, step2 hb hb2⟩
    rw [List.length_take]; omega
  have HEND := Lib.hid hEND
  clear hEND
  go_enter Try.func34, Try.ntmps34
  go_wp2
  go_loopw [3] (fun n wr => ∃ k : Nat, k ≤ l.length ∧ n = .int .i64 (k : Int) ∧ Hid (trimNT l k = trimNT l l.length) ∧ Below w.heap.size w wr) (fun n _ => (intOf n).toNat)
  case atStart => exact ⟨l.length, Nat.le_refl _, rfl, Lib.hid rfl, Below.refl _ _⟩
  case round =>
    obtain ⟨k, hk, rfl, HT, hb⟩ := hrel
    have hfin : trimNT l k = k → Hid (trimNT l l.length = k) := fun e => Lib.hid (by rw [← HT.out, e])
    rcases k with _ | k
    · have HK := hfin rfl
      have h0 : ¬ (0 : Int) < ((0 : Nat) : Int) := by omega
      rcases A with _ | ad
      · obtain rfl : ca = 0 := hnil rfl
        clear hfin
        go_wp2_with (at_builtin; refine wpList_append_tx_none rfl _ _ 28 27 rfl wr.heap.size 3 i0 1 Try.underlying28 Try.underlying27 hi0 _ 0 [] rfl (World.ownsRow_made wr #[] 0 (Nat.le_refl _) (Nat.zero_le _) rfl) rfl ?_)
        go_ret
        exact HEND.out 0 wr _ _ HK.out hb (World.ownsRow_made wr #[] 0 (Nat.le_refl _) (Nat.zero_le _) rfl) ((Below.refl _ _).alloc (Nat.le_refl _) _)
      · clear hfin
        go_wp2_with (at_builtin; refine wpList_append_tx rfl _ _ 28 27 rfl wr.heap.size 3 i0 (.int .i64 0) 1 8 Try.underlying28 Try.underlying27 hi0 hz0 hz1 hz2 rfl (by decide) _ 0 [] rfl (World.ownsRow_made wr #[] 0 (Nat.le_refl _) (Nat.zero_le _) rfl) ad (0) ca ((l.take (0)).map (Value.int .i64)) rfl ?qc1 ?qc2 ?qc3 ?qc4 ?qc5 ?qc6 ?_)
        intro v' w1 hown hgrow _
        have HB : Below wr.heap.size wr w1 := ((Below.refl _ wr).alloc (Nat.le_refl _) _).grown hgrow (by simp) (by intro k hk; simp [Value.ownBlock] at hk; omega)
        have HX := Lib.hid (HEND.out (0) wr v' w1 HK.out hb hown HB)
        clear hown hgrow
        go_wp2
        go_ret
        exact HX.out
    · obtain ⟨b, o, rfl, hg1, hc1⟩ := H.out.row (by omega)
      have e1 := (hb.cell (p := ⟨b, o + k, none⟩) hg1).trans (hc1 k (by omega))
      have hp : (0 : Int) < ((k + 1 : Nat) : Int) := by omega
      have ek : ((k + 1 : Nat) : Int) - 1 = (k : Int) := by omega
      have hk' : (k : Int) < (l.length : Int) := by omega
      clear hc1
      by_cases hz : li l k = 0
      · have HN : Hid (trimNT l k = trimNT l l.length) := Lib.hid (by rw [← HT.out, trimNT_pred hz])
        have hzb : (li l k == 0) = true := by simp [hz]
        clear hfin
        go_wp2
        go_roundw
        case rel => exact ⟨k, by omega, by go_num, HN, hb⟩
        case measure => simp [intOf]; try omega
      · have HK := hfin (trimNT_keep hz)
        have hzb : (li l k == 0) = false := by simp [hz]
        clear hfin
        go_wp2_with (at_builtin; refine wpList_append_tx rfl _ _ 28 27 rfl wr.heap.size 3 i0 (.int .i64 0) 1 8 Try.underlying28 Try.underlying27 hi0 hz0 hz1 hz2 rfl (by decide) _ 0 [] rfl (World.ownsRow_made wr #[] 0 (Nat.le_refl _) (Nat.zero_le _) rfl) ⟨b, o, none⟩ (k + 1) ca ((l.take (k + 1)).map (Value.int .i64)) rfl ?qd1 ?qd2 ?qd3 ?qd4 ?qd5 ?qd6 ?_)
        case qd1 => simp; try omega
        case qd2 =>
          intro j u hj
          exact Lib.cell?_alloc_some _ (((H.out.row.step hb).take _).src j u hj).1
        case qd3 => intro u hu; obtain ⟨x, _, rfl⟩ := List.mem_map.1 hu; rfl
        case qd4 => unfold maxLen; omega
        case qd5 => omega
        case qd6 => simp
        intro v' w1 hown hgrow _
        have HB : Below wr.heap.size wr w1 := ((Below.refl _ wr).alloc (Nat.le_refl _) _).grown hgrow (by simp) (by intro k hk; simp [Value.ownBlock] at hk; omega)
        have HX := Lib.hid (HEND.out (k + 1) wr v' w1 HK.out hb (by rw [Nat.zero_add, List.nil_append, List.map_take]; exact hown) HB)
        clear hown hgrow
        go_wp2
        go_ret
        exact HX.out
end Go.Proofs.Ytjnabmchejdhpaa
