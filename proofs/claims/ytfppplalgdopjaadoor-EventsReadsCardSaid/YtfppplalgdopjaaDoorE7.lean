/- Text of events; layer 28 (events). -/
import Derived.Test.YtfppplalgdopjaaDoorE6
import Derived.Test.YtfppplalgdopjaaDoorN3
namespace Go.Proofs.YtfppplalgdopjaaDoor
open Go.RowKit

def ns (n : Int) : ByteArray := strOfNums (textF n)
theorem ns_size (n : Int) (h1 : -9223372036854775808 ≤ n) (h2 : n ≤ 9223372036854775807) : (ns n).size ≤ 20 := by
  unfold ns
  rw [strOfNums_size]
  have h := digs_len n.natAbs 19 (by decide) (by omega)
  unfold textF
  split
  · simp; omega
  · omega
def wd (k : Nat) : ByteArray := if k = 0 then ⟨#[99, 111, 108, 108, 101, 99, 116]⟩ else if k = 1 then ⟨#[115, 119, 97, 112]⟩ else ⟨#[116, 117, 114, 110]⟩
theorem wd_size (k : Nat) : (wd k).size ≤ 7 := by unfold wd; split <;> (try split) <;> decide
def txA (x : Ev) : ByteArray := wd (x.k - 1).toNat ++ ⟨#[32]⟩ ++ ns x.a
def txB (x : Ev) : ByteArray := ⟨#[32]⟩ ++ ns x.l
def tx (x : Ev) : List UInt8 := (txA x).data.toList ++ (if x.k = 2 then (txB x).data.toList else []) ++ [10]
def InE (x : Ev) : Prop := -9223372036854775808 ≤ x.a ∧ x.a ≤ 9223372036854775807 ∧ -9223372036854775808 ≤ x.l ∧ x.l ≤ 9223372036854775807
theorem sz1 : (⟨#[32]⟩ : ByteArray).size = 1 := by decide
theorem txA_size {x : Ev} (h : InE x) : (txA x).size ≤ 28 := by
  unfold txA
  have h1 := ns_size x.a h.1 h.2.1
  have h2 := wd_size (x.k - 1).toNat
  rw [ByteArray.size_append, ByteArray.size_append, sz1]
  omega
theorem txB_size {x : Ev} (h : InE x) : (txB x).size ≤ 21 := by
  unfold txB
  have h1 := ns_size x.l h.2.2.1 h.2.2.2
  rw [ByteArray.size_append, sz1]
  omega
theorem tx_len {x : Ev} (h : InE x) : (tx x).length ≤ 50 := by
  unfold tx
  have h1 := txA_size h
  have h2 := txB_size h
  have e : ∀ s : ByteArray, s.data.toList.length = s.size := fun s => rfl
  split <;> simp only [List.length_append, e, List.length_cons, List.length_nil] <;> omega
def textG : List UInt8 → List Ev → List UInt8 × Int
  | T, [] => (T, 0)
  | T, x :: t => if flT x = 0 then textG (T ++ tx x) t else ([], flT x)
def textR (L : List Ev) : List UInt8 × Int := if 256 < L.length then ([], 18) else textG [] L
theorem textG_drop {T : List UInt8} {L : List Ev} {k : Nat} {x : Ev} (h : L[k]? = some x) : textG T (L.drop k) = if flT x = 0 then textG (T ++ tx x) (L.drop (k + 1)) else ([], flT x) := by
  have hlt : k < L.length := by
    rcases Nat.lt_or_ge k L.length with c | c
    · exact c
    · rw [List.getElem?_eq_none c] at h; cases h
  rw [List.drop_eq_getElem_cons hlt]
  rw [List.getElem?_eq_getElem hlt] at h
  cases h
  rfl
/-- The program's tables lie in w. -/
structure Gl (w : World) : Prop where
  ws : ∀ k : Nat, k < 3 → w.cell? ⟨0, k, none⟩ = some (.string (wd k))
  tab : Lib.TabIs Tryd.prog w "strings.asciiSpace" .u8 Lib.asciiSpaceTab
  lt : 1 < w.heap.size
theorem bd_add {B b : Nat} {T : List UInt8} {s : ByteArray} {w : World} (h : Bd B b (Lib.byteCells T ++ Lib.strCells s) w) : Bd B b (Lib.byteCells (T ++ s.data.toList)) w := by
  rw [Lib.byteCells_append, ← Lib.strCells_eq]; exact h
theorem at_words (k : Nat) (hk : k < 3) (w : World) : (Instr.indexAt 57 (.pointer (some ⟨0, 0, none⟩)) (.int .i64 (k : Int))).run Tryd.prog w = .ok (.pointer (some ⟨0, k, none⟩)) w := by
  rcases k with _ | _ | _ | k
  all_goals first | (exfalso; omega) | kernel_rfl
theorem flT_kind {x : Ev} (h : flT x = 0) : 1 ≤ x.k ∧ x.k ≤ 3 := by
  unfold flT at h
  split at h
  · cases h
  · omega
/-- WriteString to a Builder that holds T, in a call that began in a world of B blocks. -/
theorem e_write (B : Nat) (T : List UInt8) (s : ByteArray) (wx : World) (hD : Bd B B (Lib.byteCells T) wx) (hl : T.length + s.size ≤ 1000000) (hB : B ≤ wx.heap.size) :
    Calls Tryd.prog 20 #[.pointer (some ⟨B, 0, none⟩), .string s] wx fun e w' => ∃ n : Int, e = .returned (.tuple #[.int .i64 n, .nilIface]) ∧ Bd B B (Lib.byteCells (T ++ s.data.toList)) w' ∧ Below B wx w' ∧ Keep wx w' :=
  (b_Write B B (Lib.byteCells T) s wx hD (by rw [Lib.byteCells_length]; omega) hB).mono (by
    rintro e w' ⟨rfl, h1, h2, h3⟩
    exact ⟨_, rfl, bd_add h1, h2, h3⟩)
set_option maxRecDepth 100000 in
set_option maxHeartbeats 4000000 in
theorem e_Text (L : List Ev) (A : Option Addr) (c : Nat) (w : World) (hG : Gl w) (hR : RowG w w.heap.size A c (evC L)) (hI : ∀ x, x ∈ L → InE x) (hl : L.length ≤ 1000000) :
    Calls Tryd.prog 8 #[.slice A L.length c] w fun e w' => e = .returned (.tuple #[.string ⟨(textR L).1.toArray⟩, .int .i64 (textR L).2]) ∧ Below w.heap.size w w' := by
  by_cases hmany : 256 < L.length
  · have k1 : (256 : Int) < (L.length : Int) := by omega
    rw [show textR L = ([], 18) from if_pos hmany]
    go_enter Tryd.func8, Tryd.ntmps8
    go_wp2
    go_ret2
    exact ⟨rfl, Below.refl _ _⟩
  · have k1 : ¬ (256 : Int) < (L.length : Int) := by omega
    rw [show textR L = textG [] L from if_neg hmany]
    obtain ⟨R, hRr⟩ : ∃ R, textG [] L = R := ⟨_, rfl⟩
    rw [hRr]
    have HG := Lib.hid hG
    have HR := Lib.hid hR
    have HI := Lib.hid hI
    have HRr := Lib.hid hRr
    clear hG hR hI hRr
    have HB0 : Hid (Below w.heap.size w (w.alloc (.cells #[.pointer none, .slice none 0 0] 51))) := Lib.hid (below_al _)
    have HD0 : Hid (Bd w.heap.size w.heap.size (Lib.byteCells []) (w.alloc (.cells #[.pointer none, .slice none 0 0] 51))) := Lib.hid (Bd.new w _ (Nat.le_refl _))
    go_enter Tryd.func8, Tryd.ntmps8
    go_wp2
    go_loopw [13] (fun i wr => ∃ (k : Nat) (T : List UInt8), k ≤ L.length ∧ i = .int .i64 (k : Int) ∧ textG T (L.drop k) = R ∧ T.length ≤ k * 50 ∧ Hid (Bd w.heap.size w.heap.size (Lib.byteCells T) wr) ∧ Hid (Below w.heap.size w wr)) (fun i _ => L.length - (intOf i).toNat)
    case atStart => exact ⟨0, [], Nat.zero_le _, rfl, HRr.out, by simp, HD0, HB0⟩
    case round =>
      obtain ⟨k, T, hk, rfl, hT, hTl, HD, HB⟩ := hrel
      by_cases hlt : k < L.length
      · have l1 : (k : Int) < (L.length : Int) := by omega
        have l0 : (0 : Int) ≤ (k : Int) := by omega
        obtain ⟨b1, f1, rfl, hb1, hc1⟩ := HR.out.out (by rw [evC_len]; omega)
        obtain ⟨x, hx⟩ : ∃ x, L[k]? = some x := ⟨_, List.getElem?_eq_getElem hlt⟩
        have HIx : Hid (InE x) := Lib.hid (HI.out x (List.mem_of_getElem? hx))
        obtain ⟨n0, n1, n2⟩ := ev_at hx
        have y0 := (HB.out.cell (p := ⟨b1, f1 + k * 3, none⟩) hb1).trans (hc1 _ _ n0)
        have y1 := (HB.out.cell (p := ⟨b1, f1 + (k * 3 + 1), none⟩) hb1).trans (hc1 _ _ n1)
        have y2 := (HB.out.cell (p := ⟨b1, f1 + (k * 3 + 2), none⟩) hb1).trans (hc1 _ _ n2)
        rw [← Nat.add_assoc] at y1 y2
        rw [textG_drop hx] at hT
        clear hc1 n0 n1 n2 hx
        have HT := Lib.hid hT
        clear hT
        have HB1 : Hid (Below wr.heap.size wr (wr.alloc (.cells #[.int .i64 x.a, .int .i64 x.k, .int .i64 x.l] 47))) := Lib.hid (below_al _)
        have HK1 : Hid (Blk (wr.alloc (.cells #[.int .i64 x.a, .int .i64 x.k, .int .i64 x.l] 47)) wr.heap.size 47 #[.int .i64 x.a, .int .i64 x.k, .int .i64 x.l]) := Lib.hid (Blk.new _ _ _)
        go_upto_region 8 with (go_at_call 19; (with_reducible refine (e_flT x _).mono ?_); rintro e w5 ⟨rfl, hb5⟩; have HB5 := Lib.hid (HB1.out.trans (hb5.mono HB1.out.size)); have HK5 := Lib.hid (HK1.out.below hb5 HK1.out.lt); clear hb5)
        by_cases hf : flT x = 0
        · have hf1 : (flT x != 0) = false := by simp [hf]
          have hT := HT.out
          rw [if_pos hf] at hT
          have HT2 := Lib.hid hT
          have HD5 := Lib.hid (HD.out.below HB5.out)
          have HKD := Lib.hid (flT_kind hf)
          clear hT y0 y1 y2
          go_upto_region 10 with (fail)
          obtain ⟨kk, hkk, hk3⟩ : ∃ kk : Nat, x.k = (kk : Int) + 1 ∧ kk < 3 := ⟨(x.k - 1).toNat, by have := HKD.out; omega, by have := HKD.out; omega⟩
          have wk : IntKind.i64.wrap (x.k - 1) = (kk : Int) := by rw [IntKind.wrap_i64]; omega
          have b0 : (0 : Int) ≤ (kk : Int) := by omega
          have b3 : (kk : Int) < 3 := by omega
          have HXA : Hid (txA x = wd kk ++ ⟨#[32]⟩ ++ ns x.a) := Lib.hid (by unfold txA; rw [show (x.k - 1).toNat = kk by omega])
          have q1 : ¬ 9223372036854775807 < (wd kk).size + 1 := by have := wd_size kk; omega
          have q2 : ¬ 9223372036854775807 < (wd kk).size + 1 + (ns x.a).size := by have := wd_size kk; have := ns_size x.a HIx.out.1 HIx.out.2.1; omega
          have HKK := Lib.hid hkk
          have HK3 := Lib.hid hk3
          clear hkk hk3
          have HB50 := Lib.hid (HB.out.trans (HB5.out.mono HB.out.size))
          have hgw : w.heap.size ≤ wr.heap.size := HB.out.size
          obtain ⟨g, hg⟩ : ∃ g, wr.heap.size = g := ⟨_, rfl⟩
          rw [hg] at HK5 hgw ⊢
          have e0 : w5.cell? ⟨g, 0, none⟩ = some (.int .i64 x.a) := HK5.out.cell 0
          have e1 : w5.cell? ⟨g, 1, none⟩ = some (.int .i64 x.k) := HK5.out.cell 1
          have e2 : w5.cell? ⟨0, kk, none⟩ = some (.string (wd kk)) := (HB50.out.cell (p := ⟨0, kk, none⟩) (by have := HG.out.lt; show 0 < _; omega)).trans (HG.out.ws kk HK3.out)
          have HEX : Hid (∀ wx, Below w5.heap.size w5 wx → (wx.cell? ⟨g, 0, none⟩ = some (.int .i64 x.a) ∧ wx.cell? ⟨g, 1, none⟩ = some (.int .i64 x.k) ∧ wx.cell? ⟨0, kk, none⟩ = some (.string (wd kk)))) := Lib.hid (fun wx hb => ⟨(hb.cell (p := ⟨g, 0, none⟩) HK5.out.lt).trans e0, (hb.cell (p := ⟨g, 1, none⟩) HK5.out.lt).trans e1, (hb.cell (p := ⟨0, kk, none⟩) (by have := HK5.out.lt; show 0 < _; omega)).trans e2⟩)
          have HN : Hid (∀ wx, Calls Tryd.prog 21 #[.int .i64 x.a] wx fun e w' => e = .returned (.string (ns x.a)) ∧ Below wx.heap.size wx w') := Lib.hid (fun wx => num_Text x.a wx HIx.out.1 HIx.out.2.1)
          have HW20 : Hid (∀ wx, Below w5.heap.size w5 wx → Calls Tryd.prog 20 #[.pointer (some ⟨w.heap.size, 0, none⟩), .string (wd kk ++ ⟨#[32]⟩ ++ ns x.a)] wx fun e w' => ∃ n : Int, e = .returned (.tuple #[.int .i64 n, .nilIface]) ∧ Bd w.heap.size w.heap.size (Lib.byteCells (T ++ (txA x).data.toList)) w' ∧ Below w.heap.size wx w' ∧ Keep wx w') := Lib.hid (fun wx hb => (b_Write w.heap.size w.heap.size (Lib.byteCells T) _ wx (HD5.out.below hb) (by have := txA_size HIx.out; rw [← HXA.out, Lib.byteCells_length]; omega) (Nat.le_trans HB50.out.size hb.size)).mono (by
            rintro e w' ⟨rfl, h1, h2, h3⟩
            rw [← HXA.out] at h1
            exact ⟨_, rfl, bd_add h1, h2, h3⟩))
          have HD5r : Below w5.heap.size w5 w5.drew := (Below.refl _ _).drew
          go_region_held3 (fun wx => wx.cell? ⟨g, 0, none⟩ = some (.int .i64 x.a) ∧ wx.cell? ⟨g, 1, none⟩ = some (.int .i64 x.k) ∧ wx.cell? ⟨0, kk, none⟩ = some (.string (wd kk))) (first
              | with_reducible exact ⟨p0, p1, p2⟩
              | with_reducible exact HEX.out _ HB7.out
              | with_reducible exact HEX.out _ HD5r
              | with_reducible exact ⟨e0, e1, e2⟩
              | go_keep) (first
            | (go_at_call 20; have _ := HB7; (with_reducible refine (HW20.out _ HB7.out).mono ?_); rintro e w8 ⟨n8, rfl, hd8, hb8, hk8⟩; have HD8 := Lib.hid hd8; have HB8 := Lib.hid ((HB50.out.trans (HB7.out.mono HB50.out.size)).trans hb8); have HK8 : Hid (Blk w8 g 47 #[.int .i64 x.a, .int .i64 x.k, .int .i64 x.l]) := Lib.hid (hk8 _ _ _ _ (HK5.out.below HB7.out HK5.out.lt) (by decide) (by decide)); have p0 := HK8.out.cell 0; have p1 := HK8.out.cell 1; have p2 : w8.cell? ⟨0, kk, none⟩ = some (.string (wd kk)) := (HB8.out.cell (p := ⟨0, kk, none⟩) (by have := HG.out.lt; show 0 < _; omega)).trans (HG.out.ws kk HK3.out); clear hd8 hb8 hk8)
            | (go_at_call 21; (with_reducible refine (HN.out _).mono ?_); rintro e w7 ⟨rfl, hb7⟩; have HB7 : Hid (Below w5.heap.size w5 w7) := Lib.hid (HD5r.trans hb7); clear hb7))
          all_goals
            clear p0 p1 p2 e0 e1 e2
            have c1 : w8.cell? ⟨g, 1, none⟩ = some (.int .i64 x.k) := HK8.out.cell 1
            have HT1 : Hid ((T ++ (txA x).data.toList).length ≤ k * 50 + 28) := Lib.hid (by have h1 := txA_size HIx.out; rw [List.length_append]; have h2 : (txA x).data.toList.length = (txA x).size := rfl; omega)
            have HTX := Lib.hid (tx_len HIx.out)
            by_cases k2 : x.k = 2
            · have kq : (x.k == 2) = true := by simp [k2]
              have HK2 := Lib.hid k2
              have HXB : Hid (tx x = (txA x).data.toList ++ (txB x).data.toList ++ [10]) := Lib.hid (by unfold tx; rw [if_pos k2])
              clear k2
              have c2 : w8.cell? ⟨g, 2, none⟩ = some (.int .i64 x.l) := HK8.out.cell 2
              have q3 : ¬ 9223372036854775807 < 1 + (ns x.l).size := by have := ns_size x.l HIx.out.2.2.1 HIx.out.2.2.2; omega
              have HN2 : Hid (Calls Tryd.prog 21 #[.int .i64 x.l] w8 fun e w' => e = .returned (.string (ns x.l)) ∧ Below w8.heap.size w8 w') := Lib.hid (num_Text x.l w8 HIx.out.2.2.1 HIx.out.2.2.2)
              go_upto_region 13 with (first
                | (go_at_call 20; have _ := HB9; (with_reducible refine (e_write _ _ (⟨#[32]⟩ ++ ns x.l) w9 (HD8.out.below HB9.out) (by have h1 := HT1.out; have h2 := txB_size HIx.out; unfold txB at h2; omega) (Nat.le_trans HB8.out.size HB9.out.size)).mono ?_); rintro e wA ⟨nA, rfl, hdA, hbA, hkA⟩; have HDA := Lib.hid hdA; have HBA := Lib.hid ((HB8.out.trans (HB9.out.mono HB8.out.size)).trans hbA); clear hdA hbA hkA)
                | (go_at_call 21; (with_reducible refine HN2.out.mono ?_); rintro e w9 ⟨rfl, hb9⟩; have HB9 := Lib.hid hb9; clear hb9))
              clear c1 c2
              have HLA : Hid ((T ++ (txA x).data.toList ++ (⟨#[32]⟩ ++ ns x.l : ByteArray).data.toList).length ≤ k * 50 + 49) := Lib.hid (by have h1 := HT1.out; have h2 := txB_size HIx.out; unfold txB at h2; rw [List.length_append]; have h3 : (⟨#[32]⟩ ++ ns x.l : ByteArray).data.toList.length = (⟨#[32]⟩ ++ ns x.l : ByteArray).size := rfl; omega)
              go_wp2_with (go_at_call 20; (with_reducible refine (e_write _ _ (⟨#[10]⟩) wA HDA.out (by have h1 := HLA.out; have h2 : (⟨#[10]⟩ : ByteArray).size = 1 := rfl; omega) HBA.out.size).mono ?_); rintro e wC ⟨nC, rfl, hdC, hbC, hkC⟩; have HDC := Lib.hid hdC; have HBC := Lib.hid (HBA.out.trans hbC); clear hdC hbC hkC)
              go_roundw
              case rel => exact ⟨k + 1, T ++ tx x, by omega, by go_num, HT2.out, by rw [List.length_append]; have := HTX.out; omega, Lib.hid (by have h := HDC.out; rw [HXB.out]; simpa [txB, List.append_assoc] using h), HBC⟩
              case measure => simp [intOf]; omega
            · have kq : (x.k == 2) = false := by simp [k2]
              have HXB : Hid (tx x = (txA x).data.toList ++ [10]) := Lib.hid (by unfold tx; rw [if_neg k2, List.append_nil])
              clear k2
              go_wp2_with (go_at_call 20; (with_reducible refine (e_write _ _ (⟨#[10]⟩) w8 HD8.out (by have h1 := HT1.out; have h2 : (⟨#[10]⟩ : ByteArray).size = 1 := rfl; omega) HB8.out.size).mono ?_); rintro e wC ⟨nC, rfl, hdC, hbC, hkC⟩; have HDC := Lib.hid hdC; have HBC := Lib.hid (HB8.out.trans hbC); clear hdC hbC hkC)
              go_roundw
              case rel => exact ⟨k + 1, T ++ tx x, by omega, by go_num, HT2.out, by rw [List.length_append]; have := HTX.out; omega, Lib.hid (by have h := HDC.out; rw [HXB.out]; simpa [List.append_assoc] using h), HBC⟩
              case measure => simp [intOf]; omega
        · have hf1 : (flT x != 0) = true := by simp [hf]
          have hT := HT.out
          rw [if_neg hf] at hT
          have HT2 := Lib.hid hT
          clear hT hf
          go_wp2
          go_ret2
          exact ⟨by rw [← HT2.out]; rfl, HB.out.trans (HB5.out.mono HB.out.size)⟩
      · have l1 : ¬ (k : Int) < (L.length : Int) := by omega
        obtain rfl : k = L.length := by omega
        have HRT : Hid (R = (T, 0)) := Lib.hid (by rw [← hT, List.drop_length]; rfl)
        clear hT
        go_wp2_with (go_at_call 22; (with_reducible refine (sh_Builder_String_any _ _ T _ HD.out HB.out.size).mono ?_); rintro e w5 ⟨rfl, hb5⟩; have HB5 := Lib.hid (HB.out.trans hb5); clear hb5)
        go_ret2
        exact ⟨by rw [HRT.out]; rfl, HB5.out⟩
end Go.Proofs.YtfppplalgdopjaaDoor
