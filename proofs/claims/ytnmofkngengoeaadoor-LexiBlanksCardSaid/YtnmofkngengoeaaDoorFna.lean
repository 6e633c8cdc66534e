/- Contracts of the law's to and of the specification's Same of layer 29 (lexi), over the translation. -/
import Derived.Test.YtnmofkngengoeaaDoorFn9
import Derived.Deep.QuietTactic
import Derived.BigQuiet
namespace Go.Proofs.YtnmofkngengoeaaDoor
open Go.RowKit Go.PlainAid

def tkAt (l : List Tk) (k : Nat) : Tk := l.getD k (0, 0, emp, 0)
/-- The list at A reads as the tokens l. -/
def RT (w : World) (A : Option Addr) (l : List Tk) : Prop := 0 < l.length → ∃ b, A = some ⟨b, 0, none⟩ ∧ b < w.heap.size ∧ ∀ k, k < l.length →
  w.cell? ⟨b, k * 4, none⟩ = some (.int .i64 (tkAt l k).1) ∧ w.cell? ⟨b, k * 4 + 1, none⟩ = some (.int .i64 (tkAt l k).2.1) ∧ w.cell? ⟨b, k * 4 + 2, none⟩ = some (.string (tkAt l k).2.2.1) ∧ w.cell? ⟨b, k * 4 + 3, none⟩ = some (.int .i64 ((tkAt l k).2.2.2 : Int))
theorem RT.step {w w' : World} {A : Option Addr} {l : List Tk} (h : RT w A l) (hb : Below w.heap.size w w') : RT w' A l := fun hp => by
  obtain ⟨b, e, hB, hc⟩ := h hp
  refine ⟨b, e, Nat.lt_of_lt_of_le hB hb.size, fun k hk => ?_⟩
  obtain ⟨h0, h1, h2, h3⟩ := hc k hk
  exact ⟨(hb.cell (p := ⟨b, k * 4, none⟩) hB).trans h0, (hb.cell (p := ⟨b, k * 4 + 1, none⟩) hB).trans h1, (hb.cell (p := ⟨b, k * 4 + 2, none⟩) hB).trans h2, (hb.cell (p := ⟨b, k * 4 + 3, none⟩) hB).trans h3⟩
theorem flat_at : ∀ (l : List Tk) (k j : Nat), k < l.length → j < 4 → (l.flatMap tkCells)[k * 4 + j]? = (tkCells (tkAt l k))[j]?
  | [], _, _, h, _ => by simp at h
  | t :: r, 0, j, _, hj => by
    have hl : (tkCells t).length = 4 := rfl
    rw [List.flatMap_cons, Nat.zero_mul, Nat.zero_add, List.getElem?_append_left (by rw [hl]; exact hj)]
    rfl
  | t :: r, k + 1, j, h, hj => by
    have hl : (tkCells t).length = 4 := rfl
    rw [List.flatMap_cons, List.getElem?_append_right (by rw [hl]; omega), hl, show (k + 1) * 4 + j - 4 = k * 4 + j by omega]
    rw [flat_at r k j (by simpa using h) hj]
    rfl
theorem OwnK.rt {w : World} {base : Nat} {t : TypeId} {v : Value} {l : List Tk} (h : OwnK w base t v l) : ∃ A c, v = .slice A l.length c ∧ RT w A l := by
  rcases h.2 with ⟨rfl, h0⟩ | ⟨g, cap, cur, rfl, hg, hh, hn, hc, hsz, htk⟩
  · exact ⟨none, 0, by rw [h0], fun hp => by omega⟩
  · refine ⟨_, cap, rfl, fun hp => ⟨g, rfl, ?_, fun k hk => ?_⟩⟩
    · rcases Nat.lt_or_ge g w.heap.size with hlt | hge
      · exact hlt
      · rw [Array.getElem?_eq_none hge] at hh; cases hh
    · have hlen : (l.flatMap tkCells).length = l.length * 4 := h.1
      have key : ∀ j, j < 4 → w.cell? ⟨g, k * 4 + j, none⟩ = (tkCells (tkAt l k))[j]? := fun j hj => by
        rw [cell_of_row w g (k * 4 + j) cur t (0, 0) hh, ← flat_at l k j hk hj, ← htk, List.getElem?_take, if_pos (by omega), Array.getElem?_toList]
      exact ⟨key 0 (by omega), key 1 (by omega), key 2 (by omega), key 3 (by omega)⟩
theorem step_app_tk {ops : Array Oper} {o : Oper} {a : Act} {w : World} {K : Act → World → Prop} {Q : Exit → Act → World → Prop} {E : Prop} (hgd : o.guard = none) (s x : Operand)
    (ho : o.op = .call { callee := .builtin .append, args := #[s, x], argTypes := #[32, 32] })
    (B : Nat) (v : Value) (xs : List Tk) (hs : a.eval s = v) (hown : OwnK w B 28 v xs) (ad : Addr) (t : Tk) (hx : a.eval x = .slice (some ad) 1 1) (hc : ∀ j u, (tkCells t)[j]? = some u → w.cell? (ad.add j) = some u)
    (hB : B ≤ w.heap.size) (hlen : xs.length ≤ 1000000000) (hK : ∀ v' w', OwnK w' B 28 v' (xs ++ [t]) → Below B w w' → K (a.put o.dst v') w') :
    if Region.wanted o (yielded ops a.tmps) = true then Oper.wp Tryd.prog o a w K Q else E := by
  obtain ⟨i0, hi0, hz0, hz1, hz2⟩ := info_parts info28
  have hw : Region.wanted o (yielded ops a.tmps) = true := by simp [Region.wanted, hgd]
  rw [if_pos hw]
  obtain ⟨v', w', hr, h2, h3, h4⟩ := run_append_own (P := Tryd.prog) w B 32 o.type 28 i0 _ 4 40 Tryd.underlying32 hi0 hz0 hz1 hz2 rfl (by decide) v xs.length (xs.flatMap tkCells) hown ad 1 1 (tkCells t) rfl hc (tk_one t) (by unfold maxLen; omega) (by omega) hB
  unfold Oper.wp
  simp [execOp, ho, resolve, invoke, builtin, hs, hx, hr, Result.andThen]
  exact hK v' w' (OwnK.push h2) ((Below.refl _ _).grown h3 hB (fun k e => OwnK.block (l := xs) hown k e))
theorem addr_j (b j : Nat) : (⟨b, 0, none⟩ : Addr).add j = ⟨b, j, none⟩ := by unfold Addr.add; split <;> simp_all
set_option maxRecDepth 100000 in
set_option maxHeartbeats 4000000 in
theorem law_to (A : Option Addr) (c : Nat) (l : List Tk) (w : World) (h : RT w A l) (hl : l.length ≤ 100000000) :
    Calls Tryd.prog 12 #[.slice A l.length c] w fun e w' => ∃ v, e = .returned v ∧ OwnK w' w.heap.size 28 v l ∧ Below w.heap.size w w' := by
  have H := Lib.hid h
  clear h
  go_enter Tryd.func12, Tryd.ntmps12
  go_wp2
  go_loopw [3, 4] (fun v i wr => ∃ k : Nat, k ≤ l.length ∧ i = .int .i64 (k : Int) ∧ Hid (OwnK wr w.heap.size 28 v (l.take k)) ∧ Below w.heap.size w wr) (fun _ i _ => l.length - (intOf i).toNat)
  case atStart => exact ⟨0, Nat.zero_le _, rfl, Lib.hid (OwnK.empty w 28), (Below.refl _ _).alloc (Nat.le_refl _) _⟩
  case round =>
    obtain ⟨k, hk, rfl, HO, hb⟩ := hrel
    by_cases hlt : k < l.length
    · have h1 : (k : Int) < (l.length : Int) := by omega
      have h0 : (0 : Int) ≤ (k : Int) := by omega
      obtain ⟨b, rfl, hB, hc⟩ := H.out (by omega)
      obtain ⟨c0, c1, c2, c3⟩ := hc k hlt
      have hs : l.take (k + 1) = l.take k ++ [tkAt l k] := by
        rw [List.take_succ_eq_append_getElem hlt]; unfold tkAt; simp [List.getD, List.getElem?_eq_getElem hlt]
      have HS := Lib.hid hs
      have hszw := hb.size
      obtain ⟨Ao, co, rfl⟩ := HO.out.slice
      have hbd : Below w.heap.size w wr.drew := hb.drew
      have d0 := (hbd.cell (p := ⟨b, k * 4, none⟩) hB).trans c0
      have d1 := (hbd.cell (p := ⟨b, k * 4 + 1, none⟩) hB).trans c1
      have d2 := (hbd.cell (p := ⟨b, k * 4 + 2, none⟩) hB).trans c2
      have d3 := (hbd.cell (p := ⟨b, k * 4 + 3, none⟩) hB).trans c3
      have hlk : (l.take k).length = k := by rw [List.length_take]; omega
      generalize tkAt l k = t at *
      obtain ⟨t1, t2, t3, t4⟩ := t
      have hOd : OwnK (wr.drew.alloc (.cells #[.int .i64 t1, .int .i64 t2, .string t3, .int .i64 (t4 : Int)] 28)) w.heap.size 28 (.slice Ao (l.take k).length co) (l.take k) := (HO.out.keep (Below.refl _ _).drew).keep ((Below.refl _ _).alloc (Nat.le_refl _) _)
      have HOD := Lib.hid hOd
      have hba : Below w.heap.size w (wr.drew.alloc (.cells #[.int .i64 t1, .int .i64 t2, .string t3, .int .i64 (t4 : Int)] 28)) := hbd.alloc hbd.size _
      have HBA := Lib.hid hba
      have a0 := (hba.cell (p := ⟨b, k * 4, none⟩) hB).trans c0
      have a1 := (hba.cell (p := ⟨b, k * 4 + 1, none⟩) hB).trans c1
      have a2 := (hba.cell (p := ⟨b, k * 4 + 2, none⟩) hB).trans c2
      have a3 := (hba.cell (p := ⟨b, k * 4 + 3, none⟩) hB).trans c3
      have hbs := hba.size
      clear hc hOd hba hs
      go_wp2_with fail
      go_region_held3 (fun wx => wx.cell? ⟨b, k * 4, none⟩ = some (.int .i64 t1) ∧ wx.cell? ⟨b, k * 4 + 1, none⟩ = some (.int .i64 t2) ∧ wx.cell? ⟨b, k * 4 + 2, none⟩ = some (.string t3) ∧ wx.cell? ⟨b, k * 4 + 3, none⟩ = some (.int .i64 (t4 : Int))) (first | exact ⟨d0, d1, d2, d3⟩ | exact ⟨a0, a1, a2, a3⟩ | exact ⟨e0, e1, e2, e3⟩ | go_keep) (first
        | (refine step_app_tk rfl (.tmp 12) (.tmp 34) rfl w.heap.size (.slice Ao (l.take k).length co) (l.take k) (by rw [hlk]; rfl) HOD.out ⟨wr.drew.heap.size, 0, none⟩ (t1, t2, t3, t4) rfl (cells_four wr.drew 28 (tkCells (t1, t2, t3, t4))) hbs (by omega) ?_; intro v5 w5 hO5 hb5; have HO5 := Lib.hid hO5; have hb5' := HBA.out.trans hb5; have HB5 := Lib.hid hb5'; have e0 := (hb5'.cell (p := ⟨b, k * 4, none⟩) hB).trans c0; have e1 := (hb5'.cell (p := ⟨b, k * 4 + 1, none⟩) hB).trans c1; have e2 := (hb5'.cell (p := ⟨b, k * 4 + 2, none⟩) hB).trans c2; have e3 := (hb5'.cell (p := ⟨b, k * 4 + 3, none⟩) hB).trans c3; clear hO5 hb5 hb5'))
      have HO6 : Hid (OwnK w5 w.heap.size 28 v5 (l.take (k + 1))) := Lib.hid (by rw [HS.out]; exact HO5.out)
      clear a0 a1 a2 a3 d0 d1 d2 d3 e0 e1 e2 e3
      go_wp2
      go_roundw
      case rel => exact ⟨k + 1, by omega, by go_num, HO6, HB5.out⟩
      case measure => simp [intOf]; try omega
    · have h1 : ¬ (k : Int) < (l.length : Int) := by omega
      obtain rfl : k = l.length := by omega
      have HO2 : Hid (OwnK wr w.heap.size 28 u3 l) := Lib.hid (by have := HO.out; rwa [List.take_length] at this)
      clear HO
      go_wp2
      go_ret
      exact ⟨_, rfl, HO2.out, hb⟩
set_option maxRecDepth 100000 in
set_option maxHeartbeats 4000000 in
theorem rf_Same (A B : Option Addr) (ca cb : Nat) (l : List Tk) (w : World) (hA : RT w A l) (hB : RT w B l) (hl : l.length ≤ 100000000) :
    Calls Tryd.prog 11 #[.slice A l.length ca, .slice B l.length cb, .bool true] w fun e w' => e = .returned (.bool true) ∧ Below w.heap.size w w' := by
  have HA := Lib.hid hA
  have HB := Lib.hid hB
  clear hA hB
  go_enter Tryd.func11, Tryd.ntmps11
  go_wp2
  go_loopw [7] (fun i wr => ∃ (k : Nat), k ≤ l.length ∧ i = .int .i64 (k : Int) ∧ Below w.heap.size w wr) (fun i _ => l.length - (intOf i).toNat)
  case atStart => exact ⟨0, Nat.zero_le _, rfl, Below.refl _ _⟩
  case round =>
    obtain ⟨k, hk, rfl, hb⟩ := hrel
    by_cases hlt : k < l.length
    · have h1 : (k : Int) < (l.length : Int) := by omega
      have h0 : (0 : Int) ≤ (k : Int) := by omega
      obtain ⟨b1, rfl, _, hc1⟩ := (HA.out.step hb) (by omega)
      obtain ⟨b2, rfl, _, hc2⟩ := (HB.out.step hb) (by omega)
      obtain ⟨c0, c1, c2, c3⟩ := hc1 k hlt
      obtain ⟨d0, d1, d2, d3⟩ := hc2 k hlt
      generalize tkAt l k = t at *
      obtain ⟨t1, t2, t3, t4⟩ := t
      clear hc1 hc2
      go_wp2_with fail
      go_quiet (fail)
      go_wp2
      go_roundw
      case rel => exact ⟨k + 1, by omega, by go_num, below_drewN hb _⟩
      case measure => simp [intOf]; try omega
    · have h1 : ¬ (k : Int) < (l.length : Int) := by omega
      go_wp2
      go_ret
      exact ⟨rfl, hb⟩
end Go.Proofs.YtnmofkngengoeaaDoor
