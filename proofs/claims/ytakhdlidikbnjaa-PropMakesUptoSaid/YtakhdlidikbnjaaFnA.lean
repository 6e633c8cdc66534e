/- Contracts of the specification's vars and Vars, of layer 6 (prop). -/
import Derived.Test.YtakhdlidikbnjaaFn9
import Derived.Test.YtakhdlidikbnjaaFn5
import Derived.Test.YtakhdlidikbnjaaRv
namespace Go.Proofs.Ytakhdlidikbnjaa
open Go.RowKit

/-- Own, and not nil. -/
def OwnN (w : World) (B : Nat) (v : Value) (l : List Int) : Prop := Own w B v l ∧ v ≠ .slice none 0 0
theorem OwnN.form {w : World} {B : Nat} {v : Value} {l : List Int} (h : OwnN w B v l) : ∃ a c, v = .slice (some a) l.length c ∧ RI w w.heap.size (some a) l := by
  obtain ⟨A, c, e, hr, hn⟩ := h.1.form
  cases A with
  | none =>
    have hl := hr.none_nil
    subst hl
    have hc := hn rfl
    subst hc
    exact absurd e h.2
  | some a => exact ⟨a, c, e, hr⟩
theorem OwnN.keep {w w' : World} {B : Nat} {v : Value} {l : List Int} (h : OwnN w B v l) (hb : Below w.heap.size w w') : OwnN w' B v l := ⟨h.1.keep hb, h.2⟩
theorem own_app {w : World} {B : Nat} {v : Value} {l m : List Int} (h : w.ownsRow B 3 1 v (l.length + m.length) (l.map (Value.int .i64) ++ m.map (Value.int .i64))) : Own w B v (l ++ m) := by
  unfold Own
  rw [List.length_append, List.map_append]
  exact h
theorem vrsL_snoc : ∀ (l : List Ex) (t : Ex), vrsL (l ++ [t]) = vrsL l ++ vrs t
  | [], t => by show vrs t ++ [] = [] ++ vrs t; simp
  | a :: r, t => by
    show vrs a ++ vrsL (r ++ [t]) = (vrs a ++ vrsL r) ++ vrs t
    rw [vrsL_snoc r t]; simp
def hdV (t : Ex) : List Int := if t.op = 3 then [t.vr] else []
theorem vrs_eq (t : Ex) : vrs t = hdV t ++ vrsL t.ks := by cases t; rfl
def VarsP (w : World) (l : List Int) (e : Ending) (w' : World) : Prop := ∃ v, e = .returned v ∧ OwnN w' w.heap.size v l ∧ Below w.heap.size w w'
set_option maxRecDepth 100000 in
set_option maxHeartbeats 4000000 in
theorem rf_vars : ∀ (n : Nat) t, t.sz ≤ n → n ≤ 100000000 → ∀ A c w, Rep w.heap.size w A t → Calls Try.prog 35 #[exV t A c] w (VarsP w (vrs t)) := by
  obtain ⟨i0, hi0, hz0, hz1, hz2⟩ := info_parts info3
  intro n
  induction n with
  | zero => intro t h; have := sz_eq t; omega
  | succ n ih =>
    intro t ht hn A c w hR
    have HIH := Lib.hid (fun t h => ih t h (by omega))
    have HR := Lib.hid hR
    have hlen := szL_len t.ks
    have hszt := sz_eq t
    have hkb : t.ks.length ≤ 100000000 := by omega
    have hvl := vrs_le t
    have hvb : (vrs t).length ≤ 100000000 := by omega
    have hsb : szL t.ks ≤ n := by omega
    clear ih hR hszt hvl
    have HVE := Lib.hid (vrs_eq t)
    have HB : Hid (∀ ob, Below w.heap.size w (w.alloc ob)) := Lib.hid (fun ob => (Below.refl _ _).alloc (Nat.le_refl _) ob)
    have HX : Hid (∀ o x wr, Below (w.heap.size + 1) (w.alloc (.cells #[.int .i64 o, .int .i64 x, .slice A t.ks.length c] 24)) wr → (wr.cell? ⟨w.heap.size, 0, none⟩ = some (.int .i64 o) ∧ wr.cell? ⟨w.heap.size, 1, none⟩ = some (.int .i64 x) ∧ wr.cell? ⟨w.heap.size, 2, none⟩ = some (.slice A t.ks.length c)) ∧ Below w.heap.size w wr ∧ w.heap.size + 1 ≤ wr.heap.size) := Lib.hid (fun o x wr h => by
      have hk := (Blk.new w 24 #[.int .i64 o, .int .i64 x, .slice A t.ks.length c])
      have hsz : (w.alloc (.cells #[.int .i64 o, .int .i64 x, .slice A t.ks.length c] 24)).heap.size = w.heap.size + 1 := by simp
      have hk2 : Blk wr w.heap.size 24 #[.int .i64 o, .int .i64 x, .slice A t.ks.length c] := (h.block _ (by omega)).trans hk
      refine ⟨⟨hk2.cell 0, hk2.cell 1, hk2.cell 2⟩, (HB.out _).trans (h.mono (by omega)), ?_⟩
      have := h.size
      rw [hsz] at this
      omega)
    have hdb : (hdV t).length ≤ 1 := by unfold hdV; split <;> simp
    show Calls Try.prog 35 #[.agg #[.int .i64 t.op, .int .i64 t.vr, .slice A t.ks.length c]] w (VarsP w (vrs t))
    have hhd : hdV t = if t.op = 3 then [t.vr] else [] := rfl
    have hvb2 : (hdV t).length + szL t.ks ≤ 100000000 := by omega
    generalize hdV t = hd at *
    generalize t.op = o at *
    generalize t.vr = x at *
    have HBX : Hid (∀ o x cs, Below (w.heap.size + 1) (w.alloc (.cells #[.int .i64 o, .int .i64 x, .slice A t.ks.length c] 24)) ((w.alloc (.cells #[.int .i64 o, .int .i64 x, .slice A t.ks.length c] 24)).alloc cs)) := Lib.hid (fun o x cs => (Below.refl _ _).alloc (by simp) _)
    by_cases ho : o = 3
    · subst ho
      rw [if_pos rfl] at hhd
      have HHD := Lib.hid hhd
      clear hhd
      replace HX := Lib.hid (HX.out 3 x)
      go_enter Try.func35, Try.ntmps35
      go_wp2_with (at_builtin; refine wpList_append_own _ rfl _ _ 33 rfl (w.heap.size + 1) 3 i0 _ 1 8 Try.underlying33 hi0 hz0 hz1 hz2 rfl (by decide) (.slice (some ⟨w.heap.size + 1, 0, none⟩) 0 0) 0 [] rfl (World.ownsRow.alloc (by have h := Own.empty (w.alloc (.cells #[.int .i64 3, .int .i64 x, .slice A t.ks.length c] 24)); simp at h; exact h) _) ⟨w.heap.size + 1 + 1, 0, none⟩ 1 1 [.int .i64 x] rfl rfl (by have h := cell_one_new ((w.alloc (.cells #[.int .i64 3, .int .i64 x, .slice A t.ks.length c] 24)).alloc (.cells #[] 3)) (.int .i64 x) 3; simpa using h) (by simp [Value.oneCell']) (by unfold maxLen; omega) (by omega) (by simp <;> omega) ?_; intro v2 w1 hown hg1 hn1; have hx0 : Own w1 (w.heap.size + 1) v2 [x] := Own.push (l := []) hown; have HO0 : Hid (OwnN w1 (w.heap.size + 1) v2 (hd ++ vrsL (t.ks.take 0))) := Lib.hid ⟨by rw [HHD.out]; exact hx0, fun e => absurd (hn1.1 e).2 (by decide)⟩; have HB0 := Lib.hid (((HBX.out 3 x (.cells #[] 3)).alloc (by simp) (.cells #[.int .i64 x] 3)).grown hg1 (by simp <;> omega) (fun k e => by obtain rfl : w.heap.size + 1 = k := Option.some.inj e; omega)); clear hown hg1 hn1 hx0)
      go_loopw [3, 4] (fun out i wr => ∃ (j : Nat), j ≤ t.ks.length ∧ i = .int .i64 (j : Int) ∧ Hid (OwnN wr (w.heap.size + 1) out (hd ++ vrsL (t.ks.take j))) ∧ Below (w.heap.size + 1) (w.alloc (.cells #[.int .i64 3, .int .i64 x, .slice A t.ks.length c] 24)) wr) (fun _ i _ => t.ks.length - (intOf i).toNat)
      case atStart => exact ⟨0, Nat.zero_le _, rfl, HO0, HB0.out⟩
      case round =>
        obtain ⟨j, hj, rfl, HO, hb⟩ := hrel
        obtain ⟨⟨q0, q1, q2⟩, hbw, hszr⟩ := HX.out _ hb
        obtain ⟨ao, co, hov, _⟩ := HO.out.form
        by_cases hlt : j < t.ks.length
        · have l1 : (j : Int) < (t.ks.length : Int) := by omega
          obtain ⟨b, f0, rfl, hbl, hc⟩ := HR.out.out (by omega)
          obtain ⟨ka, kc, c0, c1, c2, hRk⟩ := hc j hlt
          have d0 := (hbw.cell (p := ⟨b, f0 + j * 3, none⟩) hbl).trans c0
          have d1 := (hbw.cell (p := ⟨b, f0 + j * 3 + 1, none⟩) hbl).trans c1
          have d2 := (hbw.cell (p := ⟨b, f0 + j * 3 + 2, none⟩) hbl).trans c2
          have HRk := Lib.hid (hRk.step hbw)
          have hu := kd_sz hlt
          have e1 := vrsL_snoc (t.ks.take j) (kd t.ks j)
          rw [← kd_take hlt] at e1
          have hm : (hd ++ vrsL (t.ks.take j)).length + (vrs (kd t.ks j)).length ≤ 100000000 := by
            have h1 := vrsL_le (t.ks.take (j + 1))
            have h2 := szL_take t.ks (j + 1)
            rw [e1, List.length_append] at h1
            rw [List.length_append]
            omega
          clear hc c0 c1 c2 hRk
          have HC := Lib.hid (HIH.out (kd t.ks j) (by omega) ka kc wr HRk.out)
          generalize kd t.ks j = u at *
          have E1 : Hid (hd ++ vrsL (t.ks.take (j + 1)) = (hd ++ vrsL (t.ks.take j)) ++ vrs u) := Lib.hid (by rw [e1, List.append_assoc])
          clear e1
          generalize hd ++ vrsL (t.ks.take j) = L at *
          generalize vrs u = M at *
          have HM := Lib.hid hm
          subst hov
          clear hu
          go_wp2_with (first
            | (go_at_call 35; (with_reducible refine HC.out.mono ?_); rintro e w3 ⟨v3, rfl, hO3, hb3⟩; obtain ⟨a3, c3, rfl, hr3⟩ := hO3.form; have HR3 := Lib.hid hr3; have HO3 := Lib.hid (HO.out.keep hb3); have HB3 := Lib.hid (hb.trans (hb3.mono (by omega))); have hz3 : w.heap.size + 1 ≤ w3.heap.size := by have := hb3.size; omega
               clear hr3 hO3 hb3)
            | (at_builtin; refine wpList_append_own _ rfl _ _ 33 rfl (w.heap.size + 1) 3 i0 _ 1 8 Try.underlying33 hi0 hz0 hz1 hz2 rfl (by decide) _ _ _ rfl HO3.out.1 a3 M.length c3 (M.map (Value.int .i64)) rfl (by simp) (fun j u hj => (HR3.out.src j u hj).1) (by simp [Value.oneCell']) (by have := HM.out; unfold maxLen; omega) (by have := HM.out; omega) hz3 ?_; intro v4 w4 hown hg4 hn4; have HO4 : Hid (OwnN w4 (w.heap.size + 1) v4 (L ++ M)) := Lib.hid ⟨own_app hown, fun e => absurd (hn4.1 e).1 HO3.out.2⟩; have HB4 := Lib.hid (HB3.out.grown hg4 hz3 (fun k e => HO3.out.1.block k e)); clear hown hg4 hn4))
          go_roundw
          case rel => exact ⟨j + 1, by omega, by go_num, by rw [E1.out]; exact HO4, HB4.out⟩
          case measure => simp [intOf]; try omega
        · have l1 : ¬ (j : Int) < (t.ks.length : Int) := by omega
          obtain rfl : j = t.ks.length := by omega
          rw [List.take_length] at HO hov
          obtain ⟨V, hV⟩ : ∃ V, hd ++ vrsL t.ks = V := ⟨_, rfl⟩
          rw [hV] at HO hov
          have HVV : Hid (vrs t = V) := Lib.hid (by rw [HVE.out, hV])
          clear hV
          subst hov
          go_wp2
          go_ret
          rw [HVV.out]
          exact ⟨_, rfl, ⟨HO.out.1.less (Nat.le_succ _), HO.out.2⟩, hbw⟩
    · have hob : (o == 3) = false := by simp [ho]
      rw [if_neg ho] at hhd
      have HHD := Lib.hid hhd
      clear hhd
      replace HX := Lib.hid (HX.out o x)
      have HO0 : Hid (OwnN ((w.alloc (.cells #[.int .i64 o, .int .i64 x, .slice A t.ks.length c] 24)).alloc (.cells #[] 3)) (w.heap.size + 1) (.slice (some ⟨w.heap.size + 1, 0, none⟩) 0 0) (hd ++ vrsL (t.ks.take 0))) := Lib.hid (by
        rw [HHD.out]
        have h := Own.empty (w.alloc (.cells #[.int .i64 o, .int .i64 x, .slice A t.ks.length c] 24))
        have hsz : (w.alloc (.cells #[.int .i64 o, .int .i64 x, .slice A t.ks.length c] 24)).heap.size = w.heap.size + 1 := by simp
        rw [hsz] at h
        exact ⟨h, fun e => by cases e⟩)
      have HB0 := Lib.hid (HBX.out o x (.cells #[] 3))
      clear ho
      go_enter Try.func35, Try.ntmps35
      go_wp2_with fail
      go_loopw [3, 4] (fun out i wr => ∃ (j : Nat), j ≤ t.ks.length ∧ i = .int .i64 (j : Int) ∧ Hid (OwnN wr (w.heap.size + 1) out (hd ++ vrsL (t.ks.take j))) ∧ Below (w.heap.size + 1) (w.alloc (.cells #[.int .i64 o, .int .i64 x, .slice A t.ks.length c] 24)) wr) (fun _ i _ => t.ks.length - (intOf i).toNat)
      case atStart => exact ⟨0, Nat.zero_le _, rfl, HO0, HB0.out⟩
      case round =>
        obtain ⟨j, hj, rfl, HO, hb⟩ := hrel
        obtain ⟨⟨q0, q1, q2⟩, hbw, hszr⟩ := HX.out _ hb
        obtain ⟨ao, co, hov, _⟩ := HO.out.form
        by_cases hlt : j < t.ks.length
        · have l1 : (j : Int) < (t.ks.length : Int) := by omega
          obtain ⟨b, f0, rfl, hbl, hc⟩ := HR.out.out (by omega)
          obtain ⟨ka, kc, c0, c1, c2, hRk⟩ := hc j hlt
          have d0 := (hbw.cell (p := ⟨b, f0 + j * 3, none⟩) hbl).trans c0
          have d1 := (hbw.cell (p := ⟨b, f0 + j * 3 + 1, none⟩) hbl).trans c1
          have d2 := (hbw.cell (p := ⟨b, f0 + j * 3 + 2, none⟩) hbl).trans c2
          have HRk := Lib.hid (hRk.step hbw)
          have hu := kd_sz hlt
          have e1 := vrsL_snoc (t.ks.take j) (kd t.ks j)
          rw [← kd_take hlt] at e1
          have hm : (hd ++ vrsL (t.ks.take j)).length + (vrs (kd t.ks j)).length ≤ 100000000 := by
            have h1 := vrsL_le (t.ks.take (j + 1))
            have h2 := szL_take t.ks (j + 1)
            rw [e1, List.length_append] at h1
            rw [List.length_append]
            omega
          clear hc c0 c1 c2 hRk
          have HC := Lib.hid (HIH.out (kd t.ks j) (by omega) ka kc wr HRk.out)
          generalize kd t.ks j = u at *
          have E1 : Hid (hd ++ vrsL (t.ks.take (j + 1)) = (hd ++ vrsL (t.ks.take j)) ++ vrs u) := Lib.hid (by rw [e1, List.append_assoc])
          clear e1
          generalize hd ++ vrsL (t.ks.take j) = L at *
          generalize vrs u = M at *
          have HM := Lib.hid hm
          subst hov
          clear hu
          go_wp2_with (first
            | (go_at_call 35; (with_reducible refine HC.out.mono ?_); rintro e w3 ⟨v3, rfl, hO3, hb3⟩; obtain ⟨a3, c3, rfl, hr3⟩ := hO3.form; have HR3 := Lib.hid hr3; have HO3 := Lib.hid (HO.out.keep hb3); have HB3 := Lib.hid (hb.trans (hb3.mono (by omega))); have hz3 : w.heap.size + 1 ≤ w3.heap.size := by have := hb3.size; omega
               clear hr3 hO3 hb3)
            | (at_builtin; refine wpList_append_own _ rfl _ _ 33 rfl (w.heap.size + 1) 3 i0 _ 1 8 Try.underlying33 hi0 hz0 hz1 hz2 rfl (by decide) _ _ _ rfl HO3.out.1 a3 M.length c3 (M.map (Value.int .i64)) rfl (by simp) (fun j u hj => (HR3.out.src j u hj).1) (by simp [Value.oneCell']) (by have := HM.out; unfold maxLen; omega) (by have := HM.out; omega) hz3 ?_; intro v4 w4 hown hg4 hn4; have HO4 : Hid (OwnN w4 (w.heap.size + 1) v4 (L ++ M)) := Lib.hid ⟨own_app hown, fun e => absurd (hn4.1 e).1 HO3.out.2⟩; have HB4 := Lib.hid (HB3.out.grown hg4 hz3 (fun k e => HO3.out.1.block k e)); clear hown hg4 hn4))
          go_roundw
          case rel => exact ⟨j + 1, by omega, by go_num, by rw [E1.out]; exact HO4, HB4.out⟩
          case measure => simp [intOf]; try omega
        · have l1 : ¬ (j : Int) < (t.ks.length : Int) := by omega
          obtain rfl : j = t.ks.length := by omega
          rw [List.take_length] at HO hov
          obtain ⟨V, hV⟩ : ∃ V, hd ++ vrsL t.ks = V := ⟨_, rfl⟩
          rw [hV] at HO hov
          have HVV : Hid (vrs t = V) := Lib.hid (by rw [HVE.out, hV])
          clear hV
          subst hov
          go_wp2
          go_ret
          rw [HVV.out]
          exact ⟨_, rfl, ⟨HO.out.1.less (Nat.le_succ _), HO.out.2⟩, hbw⟩
end Go.Proofs.Ytakhdlidikbnjaa
