/- The specification's line; layer 28 (events). -/
import Derived.Test.YtfppplalgdopjaaDoorFc
import Derived.Test.YtfppplalgdopjaaDoorNa
namespace Go.Proofs.YtfppplalgdopjaaDoor
open Go.RowKit Go.PlainAid

def pw (k : Nat) : ByteArray := if k = 0 then ⟨#[99, 111, 108, 108, 101, 99, 116, 32]⟩ else if k = 1 then ⟨#[115, 119, 97, 112, 32]⟩ else ⟨#[116, 117, 114, 110, 32]⟩
theorem pw_size (k : Nat) : (pw k).size ≤ 8 := by unfold pw; split <;> (try split) <;> decide
def hit (s : ByteArray) (k : Nat) : Bool := !decide (s.size ≤ (pw k).size) && ((s.extract 0 (pw k).size).toList == (pw k).toList)
def frL : List UInt8 → Nat
  | [] => 0
  | b :: t => if b = 32 then 0 else frL t + 1
def frs (r : ByteArray) : Nat := frL r.data.toList
theorem frL_le : ∀ l, frL l ≤ l.length
  | [] => Nat.le_refl _
  | b :: t => by
    have := frL_le t
    unfold frL
    split
    · omega
    · simp; omega
theorem frL_ne : ∀ (l : List UInt8) (k : Nat) (b : UInt8), k < frL l → l[k]? = some b → b ≠ 32
  | [], k, b, h, _ => by unfold frL at h; omega
  | c :: t, k, b, h, hb => by
    unfold frL at h
    split at h
    · omega
    · rename_i hc
      rcases k with _ | k
      · simp at hb; rw [← hb]; exact hc
      · exact frL_ne t k b (by omega) (by simpa using hb)
theorem frL_at : ∀ (l : List UInt8), frL l < l.length → l[frL l]? = some 32
  | [], h => by simp at h
  | c :: t, h => by
    unfold frL at h ⊢
    split
    · rename_i hc; simp [hc]
    · rename_i hc
      rw [if_neg hc] at h
      simpa using frL_at t (by simpa using h)
theorem bt_get (s : ByteArray) (k : Nat) (h : k < s.size) : ∃ b, s.data.toList[k]? = some b ∧ bt s k = (b.toNat : Int) := by
  have h' : k < s.data.toList.length := h
  refine ⟨s.data.toList[k], List.getElem?_eq_getElem h', ?_⟩
  unfold bt
  rw [dif_pos h]
  rfl
theorem frs_le (r : ByteArray) : frs r ≤ r.size := frL_le r.data.toList
theorem frs_ne (r : ByteArray) (k : Nat) (h : k < frs r) : bt r k ≠ 32 := by
  have hl := frs_le r
  obtain ⟨b, hb, e⟩ := bt_get r k (by omega)
  have := frL_ne r.data.toList k b h hb
  rw [e]
  intro h2
  apply this
  apply UInt8.toNat_inj.1
  show b.toNat = 32
  omega
theorem frs_at (r : ByteArray) (h : frs r < r.size) : bt r (frs r) = 32 := by
  obtain ⟨b, hb, e⟩ := bt_get r (frs r) h
  have h2 := frL_at r.data.toList h
  rw [e]
  have : b = 32 := Option.some.inj (hb.symm.trans h2)
  rw [this]; rfl
noncomputable def lnR (s : ByteArray) (k : Nat) : Ev × Bool :=
  let r := s.extract (pw k).size s.size
  if k = 1 then
    if frs r = r.size then (⟨0, 0, 0⟩, false)
    else
      let p := parseF (r.extract (frs r + 1) r.size) 0 9223372036854775807
      if p.2 ≠ 0 then (⟨0, 0, 0⟩, false)
      else
        let q := parseF (r.extract 0 (frs r)) 1 9223372036854775807
        (⟨q.1, 2, p.1⟩, q.2 == 0)
  else
    let q := parseF r 1 9223372036854775807
    (⟨q.1, (k : Int) + 1, 0⟩, q.2 == 0)
noncomputable def lnG (s : ByteArray) : Nat → Ev × Bool
  | 0 => (⟨0, 0, 0⟩, false)
  | j + 1 => if hit s (2 - j) = true then lnR s (2 - j) else lnG s j
theorem res_47t {fn : Func} {p u : Tmp} (h : fn.results = #[.cell p 47, .tmp u]) (tmps : Array Value) (w : World) (g : Nat) (a b c v : Value) (hp : tmps.getD p undef = .pointer (some ⟨g, 0, none⟩)) (hv : tmps.getD u undef = v) (hg : Blk w g 47 #[a, b, c]) :
    (results fn tmps).run Tryd.prog w = .ok (.tuple #[.agg #[a, b, c], v]) w := by
  have h2 := run_loadVar_row (P := Tryd.prog) w g 47 47 #[a, b, c] (0, 0) _ hg Tryd.underlying47 rfl size47
  rw [results_cell_tmp h, hp, hv]
  simp [asAddr, Result.andThen, h2]
def LnP (w : World) (R : Ev × Bool) (e : Ending) (w' : World) : Prop := e = .returned (.tuple #[.agg #[.int .i64 R.1.a, .int .i64 R.1.k, .int .i64 R.1.l], .bool R.2]) ∧ Below w.heap.size w w'
set_option maxRecDepth 100000 in
set_option maxHeartbeats 8000000 in
theorem r_line (s : ByteArray) (w : World) (hs : s.size ≤ 1000000) : Calls Tryd.prog 30 #[.string s] w (LnP w (lnG s 3)) := by
  obtain ⟨Rr, hRr⟩ : ∃ Rr, lnG s 3 = Rr := ⟨_, rfl⟩
  rw [hRr]
  have hK0 := Blk.new w 47 #[.int .i64 0, .int .i64 0, .int .i64 0]
  have hB0 : Below w.heap.size w (w.alloc (.cells #[.int .i64 0, .int .i64 0, .int .i64 0] 47)) := below_al _
  obtain ⟨W1, hW1⟩ : ∃ W1, w.alloc (.cells #[.int .i64 0, .int .i64 0, .int .i64 0] 47) = W1 := ⟨_, rfl⟩
  have hz1 : W1.heap.size = w.heap.size + 1 := by rw [← hW1]; simp
  rw [hW1] at hK0 hB0
  have hK2 := Blk.new W1 9 #[.string ⟨#[99, 111, 108, 108, 101, 99, 116, 32]⟩, .string ⟨#[115, 119, 97, 112, 32]⟩, .string ⟨#[116, 117, 114, 110, 32]⟩]
  have hKA := hK0.alloc (.cells #[.string ⟨#[99, 111, 108, 108, 101, 99, 116, 32]⟩, .string ⟨#[115, 119, 97, 112, 32]⟩, .string ⟨#[116, 117, 114, 110, 32]⟩] 9)
  have hB2 := hB0.alloc hB0.size (.cells #[.string ⟨#[99, 111, 108, 108, 101, 99, 116, 32]⟩, .string ⟨#[115, 119, 97, 112, 32]⟩, .string ⟨#[116, 117, 114, 110, 32]⟩] 9)
  obtain ⟨W2, hW2⟩ : ∃ W2, W1.alloc (.cells #[.string ⟨#[99, 111, 108, 108, 101, 99, 116, 32]⟩, .string ⟨#[115, 119, 97, 112, 32]⟩, .string ⟨#[116, 117, 114, 110, 32]⟩] 9) = W2 := ⟨_, rfl⟩
  rw [hW2] at hK2 hKA hB2
  rw [hz1] at hK2
  have HWS : Hid (∀ j : Nat, j < 3 → W2.cell? ⟨w.heap.size + 1, j, none⟩ = some (.string (pw j))) := Lib.hid (fun j hj => by
    rw [hK2.cell]
    rcases j with _ | _ | _ | j
    · rfl
    · rfl
    · rfl
    · omega)
  have HKA := Lib.hid hKA
  have HB2 := Lib.hid hB2
  have HW1 := Lib.hid hW1
  have HW2 := Lib.hid hW2
  have HZ1 := Lib.hid hz1
  have HRr := Lib.hid hRr
  have HS := Lib.hid hs
  clear hK0 hB0 hK2 hKA hB2 hW1 hW2 hz1 hRr
  go_enter Tryd.func30, Tryd.ntmps30
  go_upto_region 2 with (fail)
  rw [HW1.out, HW2.out]
  clear HW1 HW2
  go_wp2
  go_loopw [0, 5] (fun s0 i wr => ∃ k : Nat, k ≤ 3 ∧ s0 = .string s ∧ i = .int .i64 (k : Int) ∧ Hid (lnG s (3 - k) = Rr) ∧ Hid (Blk wr w.heap.size 47 #[.int .i64 0, .int .i64 0, .int .i64 0]) ∧ Hid (∀ j : Nat, j < 3 → wr.cell? ⟨w.heap.size + 1, j, none⟩ = some (.string (pw j))) ∧ Hid (Below w.heap.size w wr)) (fun _ i _ => 3 - (intOf i).toNat)
  case atStart => exact ⟨0, by omega, rfl, rfl, HRr, HKA, HWS, HB2⟩
  case round =>
    obtain ⟨k, hk, rfl, rfl, HR, HK, HW, HB⟩ := hrel
    by_cases hlt : k < 3
    · have l1 : (k : Int) < 3 := by omega
      have l0 : (0 : Int) ≤ (k : Int) := by omega
      have wk : IntKind.i64.wrap ((k : Int) + 1) = (k : Int) + 1 := by rw [IntKind.wrap_i64]; omega
      have hst : lnG s (3 - k) = if hit s k = true then lnR s k else lnG s (3 - (k + 1)) := by
        rw [show 3 - k = (2 - k) + 1 by omega, lnG, show 2 - (2 - k) = k by omega, show 2 - k = 3 - (k + 1) by omega]
      have HDR : Hid (∀ n, Below w.heap.size w (wr.drewN n)) := Lib.hid (fun n => HB.out.trans ⟨rfl, rfl, rfl, Nat.le_refl _, fun _ _ => rfl⟩)
      obtain ⟨P, hP⟩ : ∃ P, pw k = P := ⟨_, rfl⟩
      have y0 : wr.cell? ⟨w.heap.size + 1, k, none⟩ = some (.string P) := by rw [← hP]; exact HW.out k hlt
      have hps : P.size ≤ 8 := by rw [← hP]; exact pw_size k
      have p0 : (0 : Int) ≤ (P.size : Int) := by omega
      by_cases c1 : s.size ≤ P.size
      · have q1 : (s.size : Int) ≤ (P.size : Int) := by omega
        have q3 : decide (s.size ≤ P.size) = true := by simp [c1]
        have hh : hit s k = false := by unfold hit; rw [hP]; simp [c1]
        have HN : Hid (lnG s (3 - (k + 1)) = Rr) := Lib.hid (by rw [← HR.out, hst, hh]; rfl)
        clear hst hh c1 hP HR
        go_wp2
        go_big_quiet (fail)
        go_wp2
        go_roundw
        case rel => exact ⟨k + 1, by omega, rfl, by go_num, HN, Lib.hid (HK.out.drewN _), Lib.hid (fun j hj => HW.out j hj), Lib.hid (HDR.out _)⟩
        case measure => simp [intOf]; omega
      · have q1 : ¬ (s.size : Int) ≤ (P.size : Int) := by omega
        have q3 : decide (s.size ≤ P.size) = false := by simp [c1]
        have q4 : P.size ≤ s.size := by omega
        have q2 : (P.size : Int) ≤ (s.size : Int) := by omega
        obtain ⟨b, hb⟩ : ∃ b, ((s.extract 0 P.size).toList == P.toList) = b := ⟨_, rfl⟩
        have hh : hit s k = b := by unfold hit; rw [hP, hb]; simp [c1]
        cases b
        · have HN : Hid (lnG s (3 - (k + 1)) = Rr) := Lib.hid (by rw [← HR.out, hst, hh]; rfl)
          clear hst hh c1 hP HR
          go_wp2
          go_big_quiet (fail)
          go_wp2
          go_roundw
          case rel => exact ⟨k + 1, by omega, rfl, by go_num, HN, Lib.hid (HK.out.drewN _), Lib.hid (fun j hj => HW.out j hj), Lib.hid (HDR.out _)⟩
          case measure => simp [intOf]; omega
        · obtain ⟨r, hr⟩ : ∃ r, s.extract P.size s.size = r := ⟨_, rfl⟩
          have hrs : r.size ≤ 1000000 := by rw [← hr, ByteArray.size_extract]; have := HS.out; omega
          have hRr : lnR s k = Rr := by rw [← HR.out, hst, hh]; rfl
          have HRS := Lib.hid hrs
          have HRR := Lib.hid hRr
          have HPk := Lib.hid hP
          have HRx := Lib.hid hr
          have w2 : (P.size : Int).toNat = P.size := by simp
          clear hst hh c1 hP HR hrs hRr hr
          go_upto_region 6 with (fail)
          go_big_quiet (fail)
          go_upto_region 8 with (fail)
          rw [HRx.out]
          obtain ⟨V, hV⟩ : ∃ V, wr.drewN nq = V := ⟨_, rfl⟩
          have HKV : Hid (Blk V w.heap.size 47 #[.int .i64 0, .int .i64 0, .int .i64 0]) := Lib.hid (by rw [← hV]; exact HK.out.drewN _)
          have HBV : Hid (Below w.heap.size w V) := Lib.hid (by rw [← hV]; exact HDR.out _)
          rw [hV]
          clear hV y0 HW HK HB HDR q1 q2 q3 q4 p0 hb hps
          have hg := get_bt r
          by_cases k1 : k = 1
          · have kq : ((k : Int) == 1) = true := by simp [k1]
            obtain ⟨q, hq⟩ : ∃ q, frs r = q := ⟨_, rfl⟩
            have hqs : q ≤ r.size := by rw [← hq]; exact frs_le r
            have HNE : Hid (∀ j, j < q → bt r j ≠ 32) := Lib.hid (fun j hj => frs_ne r j (by rw [hq]; exact hj))
            have HAT : Hid (q < r.size → bt r q = 32) := Lib.hid (fun h => by rw [← hq]; exact frs_at r (by rw [hq]; exact h))
            have HRE0 : Hid (Rr = if q = r.size then (⟨0, 0, 0⟩, false) else if (parseF (r.extract (q + 1) r.size) 0 9223372036854775807).2 ≠ 0 then (⟨0, 0, 0⟩, false) else (⟨(parseF (r.extract 0 q) 1 9223372036854775807).1, 2, (parseF (r.extract (q + 1) r.size) 0 9223372036854775807).1⟩, (parseF (r.extract 0 q) 1 9223372036854775807).2 == 0)) := Lib.hid (by
              rw [← HRR.out]
              unfold lnR
              dsimp only
              rw [HPk.out, HRx.out, if_pos k1, hq])
            clear hq k1
            go_wp2
            go_loopw [7] (fun v wx => ∃ j : Nat, j ≤ q ∧ v = .int .i64 (j : Int) ∧ Hid (Blk wx w.heap.size 47 #[.int .i64 0, .int .i64 0, .int .i64 0]) ∧ Hid (Below w.heap.size w wx)) (fun v _ => q + 1 - (intOf v).toNat)
            case atStart => exact ⟨0, Nat.zero_le _, rfl, HKV, HBV⟩
            case round =>
              obtain ⟨j, hj, rfl, HKj, HBj⟩ := hrel
              by_cases hjq : j < q
              · have j1 : (j : Int) < (r.size : Int) := by omega
                have j2 : (0 : Int) ≤ (j : Int) := by omega
                have nq2 : (bt r j != 32) = true := by have := HNE.out j hjq; simp [this]
                have wj : IntKind.i64.wrap ((j : Int) + 1) = (j : Int) + 1 := by rw [IntKind.wrap_i64]; have := HRS.out; omega
                go_wp2
                go_roundw
                case rel => exact ⟨j + 1, by omega, by go_num, HKj, HBj⟩
                case measure => simp [intOf]; omega
              · obtain rfl : j = q := by omega
                clear hjq hj
                by_cases hje : j = r.size
                · have HRE : Hid (Rr = (⟨0, 0, 0⟩, false)) := Lib.hid (by rw [HRE0.out, if_pos hje])
                  have j1 : ¬ (j : Int) < (r.size : Int) := by omega
                  have je : ((j : Int) == (r.size : Int)) = true := by simp [hje]
                  clear hje
                  have z0 := HKj.out.lt
                  have z1 := HKj.out.frozen 0
                  have z2 := HKj.out.frozen 1
                  have z3 := HKj.out.frozen 2
                  have z4 : wr.cell? ⟨w.heap.size, 0, none⟩ = some (.int .i64 0) := HKj.out.cell 0
                  have z5 : wr.cell? ⟨w.heap.size, 1, none⟩ = some (.int .i64 0) := HKj.out.cell 1
                  have z6 : wr.cell? ⟨w.heap.size, 2, none⟩ = some (.int .i64 0) := HKj.out.cell 2
                  go_wp2
                  refine bodyPost_ret (res_47t rfl _ _ w.heap.size _ _ _ _ rfl rfl (((HKj.out.set_ 0 _).set_ 1 _).set_ 2 _)) rfl ⟨by rw [HRE.out]; rfl, ?_⟩
                  exact ((HBj.out.setCell (p := ⟨w.heap.size, 0, none⟩) (Nat.le_refl _) _).setCell (p := ⟨w.heap.size, 1, none⟩) (Nat.le_refl _) _).setCell (p := ⟨w.heap.size, 2, none⟩) (Nat.le_refl _) _
                · have hjl : j < r.size := by omega
                  have j1 : (j : Int) < (r.size : Int) := by omega
                  have j2 : (0 : Int) ≤ (j : Int) := by omega
                  have nq2 : (bt r j != 32) = false := by have := HAT.out hjl; simp [this]
                  have je : ((j : Int) == (r.size : Int)) = false := by simp; omega
                  have wj : IntKind.i64.wrap ((j : Int) + 1) = (j : Int) + 1 := by rw [IntKind.wrap_i64]; have := HRS.out; omega
                  have j3 : (0 : Int) ≤ (j : Int) + 1 := by omega
                  have j4 : (j : Int) + 1 ≤ (r.size : Int) := by omega
                  have j5 : (j : Int) ≤ (r.size : Int) := by omega
                  obtain ⟨pn, hpn⟩ : ∃ pn, (parseF (r.extract (j + 1) r.size) 0 9223372036854775807).1 = pn := ⟨_, rfl⟩
                  obtain ⟨pe, hpe⟩ : ∃ pe, (parseF (r.extract (j + 1) r.size) 0 9223372036854775807).2 = pe := ⟨_, rfl⟩
                  obtain ⟨qn, hqn⟩ : ∃ qn, (parseF (r.extract 0 j) 1 9223372036854775807).1 = qn := ⟨_, rfl⟩
                  obtain ⟨qe, hqe⟩ : ∃ qe, (parseF (r.extract 0 j) 1 9223372036854775807).2 = qe := ⟨_, rfl⟩
                  have hre := HRE0.out
                  rw [if_neg hje, hpn, hpe, hqn, hqe] at hre
                  have HRE1 := Lib.hid hre
                  have H46 : Hid (∀ wx, Calls Tryd.prog 46 #[.string (r.extract (j + 1) r.size), .int .i64 0, .int .i64 9223372036854775807] wx fun e w' => e = .returned (.tuple #[.int .i64 pn, .int .i64 pe]) ∧ Below wx.heap.size wx w') := Lib.hid (fun wx => by
                    rw [← hpn, ← hpe]
                    exact ref_Parse _ 0 9223372036854775807 wx (by rw [ByteArray.size_extract]; have := HRS.out; omega) (by decide) (by decide) (by decide) (by decide))
                  have H47 : Hid (∀ wx, Calls Tryd.prog 46 #[.string (r.extract 0 j), .int .i64 1, .int .i64 9223372036854775807] wx fun e w' => e = .returned (.tuple #[.int .i64 qn, .int .i64 qe]) ∧ Below wx.heap.size wx w') := Lib.hid (fun wx => by
                    rw [← hqn, ← hqe]
                    exact ref_Parse _ 1 9223372036854775807 wx (by rw [ByteArray.size_extract]; have := HRS.out; omega) (by decide) (by decide) (by decide) (by decide))
                  clear hpn hpe hqn hqe hre hje hjl
                  go_upto_region 15 with (go_at_call 46; (with_reducible refine (H46.out _).mono ?_); rintro e w5 ⟨rfl, hb5⟩; have HK5 := Lib.hid (HKj.out.below hb5 HKj.out.lt); have HB5 := Lib.hid (HBj.out.trans (hb5.mono HBj.out.size)); clear hb5)
                  by_cases hp0 : pe = 0
                  · have hpq : (pe != 0) = false := by simp [hp0]
                    have hre := HRE1.out
                    rw [if_neg (by simpa using hp0)] at hre
                    have HRE := Lib.hid hre
                    clear hre hp0 HRE1
                    go_upto_region 20 with (go_at_call 46; (with_reducible refine (H47.out _).mono ?_); rintro e w6 ⟨rfl, hb6⟩; have HK6 := Lib.hid (HK5.out.below hb6 HK5.out.lt); have HB6 := Lib.hid (HB5.out.trans (hb6.mono HB5.out.size)); clear hb6)
                    have k1 : (k : Int) = 1 := by simpa using kq
                    have z0 := HK6.out.lt
                    have z1 := HK6.out.frozen 0
                    have z2 := HK6.out.frozen 1
                    have z3 := HK6.out.frozen 2
                    have z4 : w6.cell? ⟨w.heap.size, 0, none⟩ = some (.int .i64 0) := HK6.out.cell 0
                    have z5 : w6.cell? ⟨w.heap.size, 1, none⟩ = some (.int .i64 0) := HK6.out.cell 1
                    have z6 : w6.cell? ⟨w.heap.size, 2, none⟩ = some (.int .i64 0) := HK6.out.cell 2
                    go_wp2
                    refine bodyPost_ret (res_47t rfl _ _ w.heap.size _ _ _ _ rfl rfl (((HK6.out.set_ 0 _).set_ 1 _).set_ 2 _)) rfl ⟨by rw [HRE.out]; rfl, ?_⟩
                    exact ((HB6.out.setCell (p := ⟨w.heap.size, 0, none⟩) (Nat.le_refl _) _).setCell (p := ⟨w.heap.size, 1, none⟩) (Nat.le_refl _) _).setCell (p := ⟨w.heap.size, 2, none⟩) (Nat.le_refl _) _
                  · have hpq : (pe != 0) = true := by simp [hp0]
                    have hre := HRE1.out
                    rw [if_pos hp0] at hre
                    have HRE := Lib.hid hre
                    clear hre hp0 HRE1
                    have z0 := HK5.out.lt
                    have z1 := HK5.out.frozen 0
                    have z2 := HK5.out.frozen 1
                    have z3 := HK5.out.frozen 2
                    have z4 : w5.cell? ⟨w.heap.size, 0, none⟩ = some (.int .i64 0) := HK5.out.cell 0
                    have z5 : w5.cell? ⟨w.heap.size, 1, none⟩ = some (.int .i64 0) := HK5.out.cell 1
                    have z6 : w5.cell? ⟨w.heap.size, 2, none⟩ = some (.int .i64 0) := HK5.out.cell 2
                    go_wp2
                    refine bodyPost_ret (res_47t rfl _ _ w.heap.size _ _ _ _ rfl rfl (((HK5.out.set_ 0 _).set_ 1 _).set_ 2 _)) rfl ⟨by rw [HRE.out]; rfl, ?_⟩
                    exact ((HB5.out.setCell (p := ⟨w.heap.size, 0, none⟩) (Nat.le_refl _) _).setCell (p := ⟨w.heap.size, 1, none⟩) (Nat.le_refl _) _).setCell (p := ⟨w.heap.size, 2, none⟩) (Nat.le_refl _) _
          · have kq : ((k : Int) == 1) = false := by simp; omega
            obtain ⟨qn, hqn⟩ : ∃ qn, (parseF r 1 9223372036854775807).1 = qn := ⟨_, rfl⟩
            obtain ⟨qe, hqe⟩ : ∃ qe, (parseF r 1 9223372036854775807).2 = qe := ⟨_, rfl⟩
            have HRE : Hid (Rr = (⟨qn, (k : Int) + 1, 0⟩, qe == 0)) := Lib.hid (by
              rw [← HRR.out]
              unfold lnR
              dsimp only
              rw [HPk.out, HRx.out, if_neg k1, hqn, hqe])
            have H46 : Hid (Calls Tryd.prog 46 #[.string r, .int .i64 1, .int .i64 9223372036854775807] V fun e w' => e = .returned (.tuple #[.int .i64 qn, .int .i64 qe]) ∧ Below V.heap.size V w') := Lib.hid (by
              rw [← hqn, ← hqe]
              exact ref_Parse r 1 9223372036854775807 V (by have := HRS.out; omega) (by decide) (by decide) (by decide) (by decide))
            clear hqn hqe k1 hg
            go_upto_region 20 with (go_at_call 46; (with_reducible refine H46.out.mono ?_); rintro e w5 ⟨rfl, hb5⟩; have HK5 := Lib.hid (HKV.out.below hb5 HKV.out.lt); have HB5 := Lib.hid (HBV.out.trans (hb5.mono HBV.out.size)); clear hb5)
            have z0 := HK5.out.lt
            have z1 := HK5.out.frozen 0
            have z2 := HK5.out.frozen 1
            have z3 := HK5.out.frozen 2
            have z4 : w5.cell? ⟨w.heap.size, 0, none⟩ = some (.int .i64 0) := HK5.out.cell 0
            have z5 : w5.cell? ⟨w.heap.size, 1, none⟩ = some (.int .i64 0) := HK5.out.cell 1
            have z6 : w5.cell? ⟨w.heap.size, 2, none⟩ = some (.int .i64 0) := HK5.out.cell 2
            go_wp2
            refine bodyPost_ret (res_47t rfl _ _ w.heap.size _ _ _ _ rfl rfl (((HK5.out.set_ 0 _).set_ 1 _).set_ 2 _)) rfl ⟨by rw [HRE.out]; rfl, ?_⟩
            exact ((HB5.out.setCell (p := ⟨w.heap.size, 0, none⟩) (Nat.le_refl _) _).setCell (p := ⟨w.heap.size, 1, none⟩) (Nat.le_refl _) _).setCell (p := ⟨w.heap.size, 2, none⟩) (Nat.le_refl _) _
    · obtain rfl : k = 3 := by omega
      have l1 : ¬ ((3 : Nat) : Int) < 3 := by omega
      have HRE : Hid (Rr = (⟨0, 0, 0⟩, false)) := Lib.hid (HR.out.symm)
      have z0 := HK.out.lt
      have z1 := HK.out.frozen 0
      have z2 := HK.out.frozen 1
      have z3 := HK.out.frozen 2
      have z4 : wr.cell? ⟨w.heap.size, 0, none⟩ = some (.int .i64 0) := HK.out.cell 0
      have z5 : wr.cell? ⟨w.heap.size, 1, none⟩ = some (.int .i64 0) := HK.out.cell 1
      have z6 : wr.cell? ⟨w.heap.size, 2, none⟩ = some (.int .i64 0) := HK.out.cell 2
      go_wp2
      refine bodyPost_ret (res_47t rfl _ _ w.heap.size _ _ _ _ rfl rfl (((HK.out.set_ 0 _).set_ 1 _).set_ 2 _)) rfl ⟨by rw [HRE.out]; rfl, ?_⟩
      exact ((HB.out.setCell (p := ⟨w.heap.size, 0, none⟩) (Nat.le_refl _) _).setCell (p := ⟨w.heap.size, 1, none⟩) (Nat.le_refl _) _).setCell (p := ⟨w.heap.size, 2, none⟩) (Nat.le_refl _) _
end Go.Proofs.YtfppplalgdopjaaDoor
