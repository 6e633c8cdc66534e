/- append of one value; the specification's size and Steps; layer 30 (terms). -/
import Derived.Test.YtcdpjodnbegepaaVm
namespace Go.Proofs.Ytcdpjodnbegepaa
open Go.RowKit

/-- append of one value, in a plain region. -/
theorem wpList_app_val {ops : Array Oper} {rest : List Oper} {o : Oper} {a : Act} {Q : Exit → Act → World → Prop} (hgd : o.guard = none) (s x : Operand)
    (ho : o.op = .call { callee := .builtin .append, args := #[s, x], argTypes := #[45, 45] }) (W : World) (B n : Nat) (v : Value) (l : List Int) (hs : a.eval s = v) (hrow : OwnV W B v n l) (ad : Addr) (y : Int)
    (hx : a.eval x = .slice (some ad) 1 1) (hc : ∀ j u, [Value.int .i64 y][j]? = some u → W.cell? (ad.add j) = some u) (hB : B ≤ W.heap.size) (hn : n ≤ 1000000000)
    (h : ∀ A' c' w', OwnV w' B (.slice A' (n + 1) c') (n + 1) (l ++ [y]) → Below B W w' → wpList Try.prog ops Q rest (a.put o.dst (.slice A' (n + 1) c')) w') : wpList Try.prog ops Q (o :: rest) a W := by
  obtain ⟨i0, hi0, hz0, hz1, hz2⟩ := info_parts info3
  refine wpList_append_own_at _ hgd s x 45 ho B 3 i0 _ 1 8 Try.underlying45 hi0 hz0 hz1 hz2 rfl (by decide) v n (l.map (Value.int .i64)) hs hrow ad 1 1 [Value.int .i64 y] hx rfl hc (val_one y) (by unfold maxLen; omega) (by omega) hB ?_
  intro v' w' hO hg _ _
  have ho2 : OwnV w' B v' (n + 1) (l ++ [y]) := by unfold OwnV; rw [List.map_append]; simpa using hO
  obtain ⟨A', c', rfl, _⟩ := ho2.form
  exact h A' c' w' ho2 ((Below.refl _ _).grown hg hB (fun k e => (World.ownsRow.lt hrow k e).1))
theorem OwnV.made (w : World) (B : Nat) (hB : B ≤ w.heap.size) : OwnV (w.alloc (.cells #[] 3)) B (.slice (some ⟨w.heap.size, 0, none⟩) 0 0) 0 [] := World.ownsRow_made w #[] 0 hB (Nat.zero_le _) rfl
theorem OwnV.below {w w' : World} {B : Nat} {v : Value} {n : Nat} {l : List Int} (h : OwnV w B v n l) (hb : Below w.heap.size w w') : OwnV w' B v n l := h.kept (S := fun b => w.heap.size ≤ b) (Frm.of_below hb) (fun k hk => by have := (OwnV.lt h k hk); omega)
theorem rf_size (n : Int) (w : World) (hn : -1000000000000000000 ≤ n ∧ n ≤ 1000000000000000000) : Calls Try.prog 77 #[.int .i64 n] w fun e w' => e = .returned (.int .i64 (n.natAbs : Int)) ∧ w = w' := by
  have g1 : wrap64 (-n) = -n := by unfold wrap64; omega
  have g2 : IntKind.i64.wrap (-n) = -n := by rw [IntKind.wrap_i64]; omega
  rw [show (n.natAbs : Int) = max n (-n) from by omega]
  clear hn
  go_enter Try.func77, Try.ntmps77
  go_wp2
  go_ret
  exact ⟨rfl, rfl⟩
mutual
/-- Whether a next value occurs. -/
def stE : Ex → Bool
  | .mk o _ _ ks => o == 4 || stL ks
def stL : List Ex → Bool
  | [] => false
  | t :: r => stE t || stL r
end
theorem stE_eq (t : Ex) : stE t = (t.op == 4 || stL t.ks) := by cases t; rfl
theorem stL_true : ∀ {l : List Ex} {k : Nat}, k < l.length → stE (kd l k) = true → stL l = true
  | a :: r, 0, _, h => by
    have h2 : stE a = true := h
    show (stE a || stL r) = true
    rw [h2]; rfl
  | a :: r, k + 1, hk, h => by
    have h2 : stL r = true := stL_true (by simpa using hk) (by simpa [kd] using h)
    show (stE a || stL r) = true
    rw [h2, Bool.or_true]
theorem stL_false : ∀ {l : List Ex}, (∀ k, k < l.length → stE (kd l k) = false) → stL l = false
  | [], _ => rfl
  | a :: r, h => by
    have h1 : stE a = false := h 0 (by simp)
    have h2 : stL r = false := stL_false (fun k hk => by have := h (k + 1) (by simpa using hk); simpa [kd] using this)
    show (stE a || stL r) = false
    rw [h1, h2]; rfl
set_option maxHeartbeats 4000000 in
theorem rf_Steps : ∀ (n : Nat) t, t.sz ≤ n → n ≤ 100000000 → ∀ A c w, Rep w.heap.size w A t →
    Calls Try.prog 52 #[exV t A c] w fun e w' => e = .returned (.bool (stE t)) ∧ Below w.heap.size w w' := by
  intro n
  induction n with
  | zero => intro t h; have := sz_eq t; omega
  | succ n ih =>
    intro t ht hn A c w hR
    have HIH := Lib.hid (fun t h => ih t h (by omega))
    have HR := Lib.hid hR
    have hlen := szL_len t.ks
    have hszt := sz_eq t
    have hkb : t.ks.length ≤ 100000000 := by omega
    clear ih hR
    have HB : Hid (∀ ob, Below w.heap.size w (w.alloc ob)) := Lib.hid (fun ob => (Below.refl _ _).alloc (Nat.le_refl _) ob)
    have HX : Hid (∀ wr, Below (w.alloc (.cells (exC t A c) 24)).heap.size (w.alloc (.cells (exC t A c) 24)) wr → (wr.cell? ⟨w.heap.size, 0, none⟩ = some (.int .i64 t.op) ∧ wr.cell? ⟨w.heap.size, 1, none⟩ = some (.int .i64 t.vr) ∧ wr.cell? ⟨w.heap.size, 2, none⟩ = some (.string t.nm) ∧ wr.cell? ⟨w.heap.size, 3, none⟩ = some (.slice A t.ks.length c)) ∧ Below w.heap.size w wr ∧ w.heap.size < wr.heap.size) := Lib.hid (fun wr h => by
        have hk := (Blk.new w 24 (exC t A c))
        have hsz : (w.alloc (.cells (exC t A c) 24)).heap.size = w.heap.size + 1 := by simp
        have hk2 : Blk wr w.heap.size 24 (exC t A c) := (h.block _ (by rw [hsz]; omega)).trans hk
        refine ⟨⟨hk2.cell 0, hk2.cell 1, hk2.cell 2, hk2.cell 3⟩, (HB.out _).trans (h.mono (HB.out _).size), ?_⟩
        have := h.size
        rw [hsz] at this
        omega)
    obtain ⟨R, hR⟩ : ∃ R, stE t = R := ⟨_, rfl⟩
    rw [hR]
    have hR2 := stE_eq t
    rw [hR] at hR2
    have HRR := Lib.hid hR2
    clear hR hR2
    by_cases o4 : t.op = 4
    · have X : R = true := by rw [HRR.out, o4]; rfl
      subst X
      show Calls Try.prog 52 #[.agg #[.int .i64 t.op, .int .i64 t.vr, .string t.nm, .slice A t.ks.length c]] w _
      rw [o4]
      clear HRR HX
      go_enter Try.func52, Try.ntmps52
      go_wp2
      go_ret
      exact ⟨rfl, HB.out _⟩
    have g4 : (t.op == 4) = false := by simp [o4]
    go_enter Try.func52, Try.ntmps52
    go_wp2_with fail
    go_loopw [3] (fun i wr => ∃ (j : Nat), j ≤ t.ks.length ∧ i = .int .i64 (j : Int) ∧ Hid (∀ k, k < j → stE (kd t.ks k) = false) ∧ Below (w.alloc (.cells (exC t A c) 24)).heap.size (w.alloc (.cells (exC t A c) 24)) wr) (fun i _ => t.ks.length - (intOf i).toNat)
    case atStart => exact ⟨0, Nat.zero_le _, rfl, Lib.hid (fun k hk => by omega), Below.refl _ _⟩
    case round =>
      obtain ⟨j, hj, rfl, HAB, hb⟩ := hrel
      obtain ⟨⟨q0, q1, q2, q3⟩, hbw, hszr⟩ := HX.out _ hb
      by_cases hlt : j < t.ks.length
      · have l1 : (j : Int) < (t.ks.length : Int) := by omega
        obtain ⟨b, f0, rfl, hbl, hc⟩ := HR.out.out (by omega)
        obtain ⟨ka, kc, c0, c1, c2, c3, hRk⟩ := hc j hlt
        have d0 := (hbw.cell (p := ⟨b, f0 + j * 4, none⟩) hbl).trans c0
        have d1 := (hbw.cell (p := ⟨b, f0 + j * 4 + 1, none⟩) hbl).trans c1
        have d2 := (hbw.cell (p := ⟨b, f0 + j * 4 + 2, none⟩) hbl).trans c2
        have d3 := (hbw.cell (p := ⟨b, f0 + j * 4 + 3, none⟩) hbl).trans c3
        have HRk := Lib.hid (hRk.step hbw)
        have hu := kd_sz hlt
        clear hc c0 c1 c2 c3 hRk
        have HC := Lib.hid (HIH.out (kd t.ks j) (by omega) ka kc wr HRk.out)
        have HT1 := Lib.hid (fun h => stL_true hlt h)
        have HF1 : Hid (stE (kd t.ks j) = false → ∀ k, k < j + 1 → stE (kd t.ks k) = false) := Lib.hid (fun h k hk => by
          rcases (by omega : k < j ∨ k = j) with h1 | h1
          · exact HAB.out k h1
          · rw [h1]; exact h)
        have HBW := Lib.hid hbw
        clear hu
        obtain ⟨S, hS⟩ : ∃ S, stE (kd t.ks j) = S := ⟨_, rfl⟩
        rw [hS] at HC HT1 HF1
        clear hS
        generalize kd t.ks j = u at *
        cases S
        · have X := Lib.hid (HF1.out rfl)
          go_wp2_with (go_at_call 52; (with_reducible refine HC.out.mono ?_); rintro e w3 ⟨rfl, hb3⟩; have HB3 := Lib.hid (hb.trans (hb3.mono hb.size)); clear hb3)
          go_roundw
          case rel => exact ⟨j + 1, by omega, by go_num, X, HB3.out⟩
          case measure => simp [intOf]; try omega
        · have X : Hid (R = true) := Lib.hid (by rw [HRR.out, HT1.out rfl, Bool.or_true])
          obtain rfl := X.out
          go_wp2_with (go_at_call 52; (with_reducible refine HC.out.mono ?_); rintro e w3 ⟨rfl, hb3⟩; have HB3 := Lib.hid (HBW.out.trans (hb3.mono HBW.out.size)); clear hb3)
          go_ret
          exact ⟨rfl, HB3.out⟩
      · have l1 : ¬ (j : Int) < (t.ks.length : Int) := by omega
        obtain rfl : j = t.ks.length := by omega
        have X : Hid (R = false) := Lib.hid (by rw [HRR.out, stL_false HAB.out, g4]; rfl)
        obtain rfl := X.out
        clear HAB
        go_wp2
        go_ret
        exact ⟨rfl, hbw⟩
end Go.Proofs.Ytcdpjodnbegepaa
