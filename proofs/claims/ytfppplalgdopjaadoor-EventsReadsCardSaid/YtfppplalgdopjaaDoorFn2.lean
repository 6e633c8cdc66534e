/- The specification's generated events; layer 28 (events). -/
import Derived.Test.YtfppplalgdopjaaDoorFn1
import Derived.Deep.Cut
namespace Go.Proofs.YtfppplalgdopjaaDoor
open Go.RowKit

/-- An event: after, kind, level. -/
structure Ev where
  a : Int
  k : Int
  l : Int
def evR (x : Ev) : List Value := [.int .i64 x.a, .int .i64 x.k, .int .i64 x.l]
def evC (l : List Ev) : List Value := l.flatMap evR
theorem evC_len (l : List Ev) : (evC l).length = l.length * 3 := by
  unfold evC
  induction l with
  | nil => rfl
  | cons x t ih => simp only [List.flatMap_cons, List.length_append, ih, List.length_cons, evR, List.length_nil]; omega
def OwnE (w : World) (B : Nat) (v : Value) (n : Nat) (l : List Ev) : Prop := l.length = n ∧ w.ownsRow B 47 3 v n (evC l)
theorem info47 : (Tryd.prog.info? 47).map (fun i => (i.zero, i.size, i.bytes)) = some (some (.agg #[.int .i64 0, .int .i64 0, .int .i64 0]), 3, 24) := by kernel_rfl
theorem info_parts {P : Program} {t : TypeId} {z : Option Value} {a b : Nat} (h : (P.info? t).map (fun i => (i.zero, i.size, i.bytes)) = some (z, a, b)) : ∃ i, P.info? t = some i ∧ i.zero = z ∧ i.size = a ∧ i.bytes = b := by
  cases hi : P.info? t with
  | none => rw [hi] at h; cases h
  | some i => rw [hi] at h; simp only [Option.map_some, Option.some.injEq, Prod.mk.injEq] at h; exact ⟨i, rfl, h.1, h.2.1, h.2.2⟩
theorem own_keep {w w' : World} {B e size n : Nat} {v : Value} {xs : List Value} (h : w.ownsRow B e size v n xs) (hb : Below w.heap.size w w') : w'.ownsRow B e size v n xs := by
  have hlt := fun g => World.ownsRow.lt h g
  obtain ⟨h1, h2⟩ := h
  refine ⟨h1, ?_⟩
  rcases h2 with h2 | ⟨g, cap, cur, hv, hg, hh, rest⟩
  · exact .inl h2
  · exact .inr ⟨g, cap, cur, hv, hg, (hb.block g (hlt g (by rw [hv]; rfl)).2).trans hh, rest⟩
/-- append of an event to a row of the call's own, in a plain region. -/
theorem wpList_app_ev {ops : Array Oper} {rest : List Oper} {o : Oper} {a : Act} {Q : Exit → Act → World → Prop} (hgd : o.guard = none) (s x : Operand)
    (ho : o.op = .call { callee := .builtin .append, args := #[s, x], argTypes := #[22, 22] }) (W : World) (B n : Nat) (v : Value) (l : List Ev) (hs : a.eval s = v) (hrow : OwnE W B v n l) (p q r : Int) (g : Nat) (hg0 : W.heap.size = g) (hx : a.eval x = .slice (some ⟨g, 0, none⟩) 1 1) (hB : B ≤ W.heap.size) (hn : n ≤ 1000000)
    (h : ∀ v' w', OwnE w' B v' (n + 1) (l ++ [⟨p, q, r⟩]) → Below B W w' → wpList Tryd.prog ops Q rest (a.put o.dst v') w') :
    wpList Tryd.prog ops Q (o :: rest) a (W.alloc (.cells #[.int .i64 p, .int .i64 q, .int .i64 r] 47)) := by
  obtain ⟨i0, hi0, hz0, hz1, hz2⟩ := info_parts info47
  subst hg0
  obtain ⟨hl, hown⟩ := hrow
  have hal : Below W.heap.size W (W.alloc (.cells #[.int .i64 p, .int .i64 q, .int .i64 r] 47)) := (Below.refl _ _).alloc (Nat.le_refl _) _
  have hblk := Blk.new W 47 #[.int .i64 p, .int .i64 q, .int .i64 r]
  refine wpList_append_own_at _ hgd s x 22 ho B 47 i0 _ 3 24 Tryd.underlying22 hi0 hz0 hz1 hz2 rfl (by decide) v n (evC l) hs (own_keep hown hal) ⟨W.heap.size, 0, none⟩ 1 1 (evR ⟨p, q, r⟩) hx rfl (fun j u hj => ?_) (by simp [evR, Value.oneCell']) (by unfold maxLen; omega) (by omega) (by simp; omega) ?_
  · have e : (⟨W.heap.size, 0, none⟩ : Addr).add j = ⟨W.heap.size, 0 + j, none⟩ := by unfold Addr.add; split <;> simp_all
    rw [e, Nat.zero_add, hblk.cell]
    simpa [evR] using hj
  · intro v' w' hO hg _ _
    refine h v' w' ⟨by simp [hl], ?_⟩ ((hal.mono hB).trans ((Below.refl _ _).grown hg (by simp; omega) (fun k e => (World.ownsRow.lt (own_keep hown hal) k e).1)))
    unfold evC at hO ⊢
    rw [List.flatMap_append]
    simpa using hO
/-- The seed behind k rounds. -/
def sd (x : Int) : Nat → Int
  | 0 => x
  | k + 1 => nx (nx (nx (sd x k)))
def evOf (most vars x : Int) : Ev :=
  let a := nx x; let b := nx a; let c := nx b
  if 1 + b / 8589934592 % 3 = 2 then (if vars < 2 then ⟨1 + a / 8589934592 % most, 1, 0⟩ else ⟨1 + a / 8589934592 % most, 2, c / 8589934592 % (vars - 1)⟩) else ⟨1 + a / 8589934592 % most, 1 + b / 8589934592 % 3, 0⟩
def spr (most vars x : Int) : Nat → List Ev
  | 0 => []
  | k + 1 => spr most vars x k ++ [evOf most vars (sd x k)]
set_option maxRecDepth 100000 in
set_option maxHeartbeats 4000000 in
theorem r_Spread (x many most vars : Int) (_hx : 0 ≤ x ∧ x ≤ 18446744073709551615) (hv : -9223372036854775808 ≤ vars ∧ vars ≤ 9223372036854775807) (h1 : 1 ≤ most) (h2 : most ≤ 1048576) (h3 : ¬ 256 < many) (w : World) :
    Calls Tryd.prog 18 #[.int .u64 x, .int .i64 many, .int .i64 most, .int .i64 vars] w fun e w' => ∃ v, e = .returned v ∧ OwnE w' w.heap.size v many.toNat (spr most vars x many.toNat) ∧ Below w.heap.size w w' := by
  have c1 : ¬ most < 1 := by omega
  have c2 : ¬ 1048576 < most := by omega
  have HN : Hid (∀ wx x, Calls Tryd.prog 33 #[.int .u64 x] wx fun e w' => e = .returned (.int .u64 (nx x)) ∧ wx = w') := Lib.hid (fun wx x => r_next x wx)
  have H0 : Hid (OwnE w w.heap.size (.slice none 0 0) 0 []) := Lib.hid ⟨rfl, rfl, .inl ⟨rfl, rfl⟩⟩
  have gm : IntKind.u64.wrap most = most := IntWalk.u64_in _ (by omega)
  have HV : Hid (-9223372036854775808 ≤ vars ∧ vars ≤ 9223372036854775807) := Lib.hid hv
  have HM : Hid (many ≤ 256) := Lib.hid (by omega)
  clear _hx hv
  go_enter Tryd.func18, Tryd.ntmps18
  go_wp2_with fail
  go_loopw [0, 9, 10] (fun s0 s9 i wr => ∃ k : Nat, k ≤ many.toNat ∧ i = .int .i64 (k : Int) ∧ s0 = .int .u64 (sd x k) ∧ Hid (OwnE wr w.heap.size s9 k (spr most vars x k)) ∧ Hid (Below w.heap.size w wr)) (fun _ _ i _ => many.toNat - (intOf i).toNat)
  case atStart => exact ⟨0, Nat.zero_le _, rfl, rfl, H0, Lib.hid (Below.refl _ _)⟩
  case round =>
    obtain ⟨k, hk, rfl, rfl, HO, HB⟩ := hrel
    by_cases hlt : k < many.toNat
    · have l1 : (k : Int) < many := by omega
      go_upto_region 15 with (first | (go_at_call 33; refine (HN.out _ _).mono ?_; rintro e w' ⟨rfl, rfl⟩))
      have ba := nx_bd (sd x k)
      generalize ea : nx (sd x k) = a at *
      have bb := nx_bd a
      generalize eb : nx a = b at *
      have bc := nx_bd b
      generalize ec : nx b = c at *
      obtain ⟨P, hP⟩ : ∃ P, a / 8589934592 % most = P := ⟨_, rfl⟩
      obtain ⟨R, hR⟩ : ∃ R, b / 8589934592 % 3 = R := ⟨_, rfl⟩
      have p0 : 0 ≤ P := by rw [← hP]; exact Int.emod_nonneg _ (by omega)
      have p1 : P < most := by rw [← hP]; exact Int.emod_lt_of_pos _ (by omega)
      have r0 : 0 ≤ R ∧ R < 3 := by omega
      have hev : evOf most vars (sd x k) = (if 1 + R = 2 then (if vars < 2 then ⟨1 + P, 1, 0⟩ else ⟨1 + P, 2, c / 8589934592 % (vars - 1)⟩) else ⟨1 + P, 1 + R, 0⟩) := by
        unfold evOf
        dsimp only
        rw [ea, eb, ec, hP, hR]
      have hsd : sd x (k + 1) = c := by show nx (nx (nx (sd x k))) = c; rw [ea, eb, ec]
      have HSD := Lib.hid hsd
      have hk6 : k ≤ 1000000 := by have := HM.out; omega
      have HK6 := Lib.hid hk6
      have fin : ∀ E : Ev, evOf most vars (sd x k) = E → Hid (spr most vars x (k + 1) = spr most vars x k ++ [E]) := fun E hE => Lib.hid (by rw [← hE]; rfl)
      have HW : Hid (∀ o, OwnE (wr.alloc o) w.heap.size u9 k (spr most vars x k) ∧ w.heap.size ≤ (wr.alloc o).heap.size ∧ Below w.heap.size w (wr.alloc o)) := Lib.hid (fun o => ⟨⟨HO.out.1, own_keep HO.out.2 ((Below.refl _ _).alloc (Nat.le_refl _) _)⟩, by have := HB.out.size; simp; omega, HB.out.alloc HB.out.size _⟩)
      go_upto_region 16 with (fail)
      clear hP ba bb p0 p1
      by_cases hR1 : R = 1
      · subst hR1
        by_cases hv2 : vars < 2
        · have HE := fin ⟨1 + P, 1, 0⟩ (by rw [hev, if_pos (by omega), if_pos hv2])
          clear fin hev hsd ea eb ec hR bc hk6
          go_upto_region 20 with (fail)
          go_upto_region 10 with (at_builtin; (refine wpList_app_ev rfl (.tmp 65) (.tmp 67) rfl (wr.alloc (.cells #[.int .i64 (1 + P), .int .i64 1, .int .i64 0] 47)) w.heap.size k u9 (spr most vars x k) rfl (HW.out _).1 (1 + P) 1 0 (wr.heap.size + 1) (by simp) rfl (HW.out _).2.1 HK6.out ?_); intro v4 w4 hO4 hb4; have HO2 := Lib.hid hO4; have HB2 := Lib.hid ((HW.out _).2.2.trans hb4); clear hO4 hb4)
          go_wp2
          go_roundw
          case rel => exact ⟨k + 1, by omega, by go_num, by rw [HSD.out], by rw [HE.out]; exact HO2, HB2⟩
          case measure => simp [intOf]; omega
        · have hv3 : IntKind.i64.wrap (vars - 1) = vars - 1 := IntWalk.i64_in _ (by have := HV.out; omega)
          have hv4 : wrap64 (vars - 1) = vars - 1 := by have := HV.out; unfold wrap64; omega
          have hv5 : IntKind.u64.wrap (vars - 1) = vars - 1 := IntWalk.u64_in _ (by have := HV.out; omega)
          obtain ⟨L, hL⟩ : ∃ L, c / 8589934592 % (vars - 1) = L := ⟨_, rfl⟩
          have q0 : 0 ≤ L := by rw [← hL]; exact Int.emod_nonneg _ (by omega)
          have q1 : L < vars - 1 := by rw [← hL]; exact Int.emod_lt_of_pos _ (by omega)
          have q2 : L ≤ 9223372036854775807 := by have := HV.out; omega
          have q3 : vars - 1 ≠ 0 := by omega
          have q4 : 0 ≤ vars - 1 := by omega
          have q5 : ((vars - 1) == 0) = false := by simp [q3]
          have HE := fin ⟨1 + P, 2, L⟩ (by rw [hev, if_pos (by omega), if_neg hv2, hL])
          clear fin hev hsd ea eb ec hR hk6
          go_upto_region 20 with (fail)
          go_upto_region 10 with (at_builtin; (refine wpList_app_ev rfl (.tmp 65) (.tmp 67) rfl (wr.alloc (.cells #[.int .i64 (1 + P), .int .i64 2, .int .i64 L] 47)) w.heap.size k u9 (spr most vars x k) rfl (HW.out _).1 (1 + P) 2 L (wr.heap.size + 1) (by simp) rfl (HW.out _).2.1 HK6.out ?_); intro v4 w4 hO4 hb4; have HO2 := Lib.hid hO4; have HB2 := Lib.hid ((HW.out _).2.2.trans hb4); clear hO4 hb4)
          go_wp2
          go_roundw
          case rel => exact ⟨k + 1, by omega, by go_num, by rw [HSD.out], by rw [HE.out]; exact HO2, HB2⟩
          case measure => simp [intOf]; omega
      · have HE := fin ⟨1 + P, 1 + R, 0⟩ (by rw [hev, if_neg (by omega)])
        have hR2 : ¬ 1 + R = 2 := by omega
        have hR3 : (1 + R == 2) = false := by simp [hR2]
        clear fin hev hsd ea eb ec hR bc hk6
        go_upto_region 20 with (fail)
        go_upto_region 10 with (at_builtin; (refine wpList_app_ev rfl (.tmp 65) (.tmp 67) rfl (wr.alloc (.cells #[.int .i64 (1 + P), .int .i64 (1 + R), .int .i64 0] 47)) w.heap.size k u9 (spr most vars x k) rfl (HW.out _).1 (1 + P) (1 + R) 0 (wr.heap.size + 1) (by simp) rfl (HW.out _).2.1 HK6.out ?_); intro v4 w4 hO4 hb4; have HO2 := Lib.hid hO4; have HB2 := Lib.hid ((HW.out _).2.2.trans hb4); clear hO4 hb4)
        go_wp2
        go_roundw
        case rel => exact ⟨k + 1, by omega, by go_num, by rw [HSD.out], by rw [HE.out]; exact HO2, HB2⟩
        case measure => simp [intOf]; omega
    · have l1 : ¬ (k : Int) < many := by omega
      obtain rfl : k = many.toNat := by omega
      go_wp2
      go_ret
      exact ⟨_, rfl, HO.out, HB.out⟩
end Go.Proofs.YtfppplalgdopjaaDoor
