/- The specification's Text; layer 28 (events). -/
import Derived.Test.YtfppplalgdopjaaDoorRa
import Derived.Test.YtfppplalgdopjaaDoorE7
import Derived.Test.YtfppplalgdopjaaDoorN2
namespace Go.Proofs.YtfppplalgdopjaaDoor
open Go.RowKit

def wdr (j : Nat) : ByteArray := if j = 0 then ⟨#[]⟩ else wd (j - 1)
set_option maxRecDepth 100000 in
set_option maxHeartbeats 8000000 in
theorem r_Text (L : List Ev) (A : Option Addr) (c : Nat) (w : World) (hR : RowG w w.heap.size A c (evC L)) (hI : ∀ x, x ∈ L → InE x) (hl : L.length ≤ 1000000) :
    Calls Tryd.prog 9 #[.slice A L.length c] w fun e w' => e = .returned (.tuple #[.string ⟨(textR L).1.toArray⟩, .int .i64 (textR L).2]) ∧ Below w.heap.size w w' := by
  by_cases hmany : 256 < L.length
  · have k1 : (256 : Int) < (L.length : Int) := by omega
    rw [show textR L = ([], 18) from if_pos hmany]
    go_enter Tryd.func9, Tryd.ntmps9
    go_wp2
    go_ret2
    exact ⟨rfl, Below.refl _ _⟩
  · have k1 : ¬ (256 : Int) < (L.length : Int) := by omega
    rw [show textR L = textG [] L from if_neg hmany]
    obtain ⟨R, hRr⟩ : ∃ R, textG [] L = R := ⟨_, rfl⟩
    rw [hRr]
    have HR := Lib.hid hR
    have HI := Lib.hid hI
    have HRr := Lib.hid hRr
    clear hR hI hRr
    have HW0 : Hid (∀ j : Nat, j < 4 → (w.alloc (.cells #[.string ⟨#[]⟩, .string ⟨#[99, 111, 108, 108, 101, 99, 116]⟩, .string ⟨#[115, 119, 97, 112]⟩, .string ⟨#[116, 117, 114, 110]⟩] 9)).cell? ⟨w.heap.size, j, none⟩ = some (.string (wdr j))) := Lib.hid (fun j hj => by
      rw [(Blk.new w 9 #[.string ⟨#[]⟩, .string ⟨#[99, 111, 108, 108, 101, 99, 116]⟩, .string ⟨#[115, 119, 97, 112]⟩, .string ⟨#[116, 117, 114, 110]⟩]).cell j]
      rcases j with _ | _ | _ | _ | j
      · rfl
      · rfl
      · rfl
      · rfl
      · omega)
    have HB0 : Hid (Below w.heap.size w (w.alloc (.cells #[.string ⟨#[]⟩, .string ⟨#[99, 111, 108, 108, 101, 99, 116]⟩, .string ⟨#[115, 119, 97, 112]⟩, .string ⟨#[116, 117, 114, 110]⟩] 9))) := Lib.hid (below_al _)
    go_enter Tryd.func9, Tryd.ntmps9
    go_wp2
    go_loopw [5, 6] (fun s5 i wr => ∃ (k : Nat) (S : ByteArray), k ≤ L.length ∧ i = .int .i64 (k : Int) ∧ s5 = .string S ∧ textG S.data.toList (L.drop k) = R ∧ S.size ≤ k * 50 ∧ Hid (∀ j : Nat, j < 4 → wr.cell? ⟨w.heap.size, j, none⟩ = some (.string (wdr j))) ∧ Hid (Below w.heap.size w wr) ∧ Hid (w.heap.size < wr.heap.size)) (fun _ i _ => L.length - (intOf i).toNat)
    case atStart => exact ⟨0, ⟨#[]⟩, Nat.zero_le _, rfl, rfl, HRr.out, Nat.le_refl _, HW0, HB0, Lib.hid (by simp)⟩
    case round =>
      obtain ⟨k, S, hk, rfl, rfl, hT, hTl, HW, HB, HZ⟩ := hrel
      by_cases hlt : k < L.length
      · have l1 : (k : Int) < (L.length : Int) := by omega
        have l0 : (0 : Int) ≤ (k : Int) := by omega
        obtain ⟨b1, f1, rfl, hb1, hc1⟩ := HR.out.out (by rw [evC_len]; omega)
        obtain ⟨x, hx⟩ : ∃ x, L[k]? = some x := ⟨_, List.getElem?_eq_getElem hlt⟩
        have HIx : Hid (InE x) := Lib.hid (HI.out x (List.mem_of_getElem? hx))
        obtain ⟨n0, n1, n2⟩ := ev_at hx
        have y0 := (HB.out.cell (p := ⟨b1, f1 + k * 3, none⟩) hb1).trans (hc1 _ _ n0)
        have y1 := (HB.out.cell (p := ⟨b1, f1 + (k * 3 + 1), none⟩) hb1).trans (hc1 _ _ n1)
        have y2 := (HB.out.cell (p := ⟨b1, f1 + (k * 3 + 2), none⟩) hb1).trans (hc1 _ _ n2)
        rw [← Nat.add_assoc] at y1 y2
        rw [textG_drop hx] at hT
        clear hc1 n0 n1 n2 hx
        have HT := Lib.hid hT
        clear hT
        have wk : IntKind.i64.wrap ((k : Int) + 1) = (k : Int) + 1 := by rw [IntKind.wrap_i64]; omega
        by_cases hf : flT x = 0
        · have hT := HT.out
          rw [if_pos hf] at hT
          have HT2 := Lib.hid hT
          have hf2 : 1 ≤ x.k ∧ x.k ≤ 3 ∧ 1 ≤ x.a ∧ 0 ≤ x.l ∧ (x.k ≠ 2 → x.l = 0) := by
            unfold flT at hf
            split at hf
            · cases hf
            · split at hf
              · cases hf
              · omega
          clear hT hf HT
          have HTX := Lib.hid (tx_len HIx.out)
          have HSA := Lib.hid (txA_size HIx.out)
          have HSB := Lib.hid (txB_size HIx.out)
          have HXD : Hid (tx x = (txA x).data.toList ++ (if x.k = 2 then (txB x).data.toList else []) ++ [10]) := Lib.hid rfl
          obtain ⟨kk, hkk⟩ : ∃ kk : Nat, x.k = (kk : Int) := ⟨x.k.toNat, by omega⟩
          have HXA : Hid (txA x = wdr kk ++ ⟨#[32]⟩ ++ ns x.a) := Lib.hid (by unfold txA wdr; rw [show (x.k - 1).toNat = kk - 1 by omega, if_neg (by omega)])
          have HXB : Hid (txB x = ⟨#[32]⟩ ++ ns x.l) := Lib.hid rfl
          obtain ⟨i1, i2, i3, i4⟩ := HIx.out
          have s1 := ns_size x.a i1 i2
          have s2 := ns_size x.l i3 i4
          have s3 : (wdr kk).size ≤ 7 := by unfold wdr; split; decide; exact wd_size _
          obtain ⟨c1, c2, c3, c4, c5⟩ := hf2
          have HC5 := Lib.hid c5
          have HN1 : Hid (∀ wx, Calls Tryd.prog 23 #[.int .i64 x.a] wx fun e w' => e = .returned (.string (ns x.a)) ∧ Below wx.heap.size wx w') := Lib.hid (fun wx => ref_Text x.a wx i1 i2)
          have HN2 : Hid (∀ wx, Calls Tryd.prog 23 #[.int .i64 x.l] wx fun e w' => e = .returned (.string (ns x.l)) ∧ Below wx.heap.size wx w') := Lib.hid (fun wx => ref_Text x.l wx i3 i4)
          obtain ⟨xa, xk, xl⟩ := x
          dsimp only at *
          subst hkk
          have k1' : 1 ≤ kk ∧ kk ≤ 3 := by omega
          have b0 : (0 : Int) ≤ (kk : Int) := by omega
          have b4 : (kk : Int) < 4 := by omega
          have q1 : ¬ 9223372036854775807 < S.size + (wdr kk).size := by omega
          have q2 : ¬ 9223372036854775807 < S.size + (wdr kk).size + 1 := by omega
          have q3 : ¬ 9223372036854775807 < S.size + (wdr kk).size + 1 + (ns xa).size := by omega
          have z1 := HW.out kk (by omega)
          have HEX : Hid (∀ wx, Below wr.heap.size wr wx → wx.cell? ⟨b1, f1 + k * 3, none⟩ = some (.int .i64 xa) ∧ wx.cell? ⟨b1, f1 + k * 3 + 1, none⟩ = some (.int .i64 (kk : Int)) ∧ wx.cell? ⟨w.heap.size, kk, none⟩ = some (.string (wdr kk))) := Lib.hid (fun wx hb => ⟨(hb.cell (p := ⟨b1, f1 + k * 3, none⟩) (Nat.lt_of_lt_of_le hb1 HB.out.size)).trans y0, (hb.cell (p := ⟨b1, f1 + k * 3 + 1, none⟩) (Nat.lt_of_lt_of_le hb1 HB.out.size)).trans y1, (hb.cell (p := ⟨w.heap.size, kk, none⟩) HZ.out).trans z1⟩)
          have HDR : Hid (∀ n, Below wr.heap.size wr (wr.drewN n)) := Lib.hid (fun n => below_drewN (Below.refl _ _) n)
          by_cases k2 : kk = 2
          · subst k2
            have kq : ((2 : Int) != 2) = false := by decide
            have y1' : wr.cell? ⟨b1, f1 + k * 3 + 1, none⟩ = some (.int .i64 2) := y1
            have HEY : Hid (∀ wx, Below wr.heap.size wr wx → wx.cell? ⟨b1, f1 + k * 3, none⟩ = some (.int .i64 xa) ∧ wx.cell? ⟨b1, f1 + k * 3 + 1, none⟩ = some (.int .i64 2) ∧ wx.cell? ⟨w.heap.size, 2, none⟩ = some (.string (wdr 2))) := HEX
            have HY2 : Hid (wr.cell? ⟨b1, f1 + k * 3 + 2, none⟩ = some (.int .i64 xl)) := Lib.hid y2
            have g1 : ¬ ((2 : Int) < 1) := by decide
            have g2 : ¬ ((3 : Int) < 2) := by decide
            clear y1 HEX k1'
            go_upto_region 12 with (fail)
            have hdr : Below wr.heap.size wr wr.drew := (Below.refl _ _).drew
            go_region_held3 (fun wx => wx.cell? ⟨b1, f1 + k * 3, none⟩ = some (.int .i64 xa) ∧ wx.cell? ⟨b1, f1 + k * 3 + 1, none⟩ = some (.int .i64 2) ∧ wx.cell? ⟨w.heap.size, 2, none⟩ = some (.string (wdr 2))) (first
                | with_reducible exact HEY.out _ HB7.out
                | with_reducible exact ⟨y0, y1', z1⟩
                | exact HEY.out _ hdr
                | go_keep) (first
                | (go_at_call 23; (with_reducible refine (HN1.out _).mono ?_); rintro e w7 ⟨rfl, hb7⟩; have HB7 : Hid (Below wr.heap.size wr w7) := Lib.hid (hdr.trans hb7); clear hb7))
            all_goals
              obtain ⟨S1, hS1⟩ : ∃ S1, S ++ wdr 2 ++ ⟨#[32]⟩ ++ ns xa = S1 := ⟨_, rfl⟩
              have hz1 : S1.size ≤ k * 50 + 28 := by rw [← hS1, ByteArray.size_append, ByteArray.size_append, ByteArray.size_append, sz1]; omega
              have HS1 : Hid (S1.data.toList = S.data.toList ++ (txA ⟨xa, ((2 : Nat) : Int), xl⟩).data.toList) := Lib.hid (by rw [← hS1, HXA.out]; simp [ByteArray.append_assoc])
              rw [hS1]
              obtain ⟨p0, p1, p2⟩ := HEY.out _ HB7.out
              have p3 : w7.cell? ⟨b1, f1 + k * 3 + 2, none⟩ = some (.int .i64 xl) := (HB7.out.cell (p := ⟨b1, f1 + k * 3 + 2, none⟩) (Nat.lt_of_lt_of_le hb1 HB.out.size)).trans HY2.out
              have q5 : ¬ 9223372036854775807 < S1.size + 1 := by omega
              have q6 : ¬ 9223372036854775807 < S1.size + 1 + (ns xl).size := by omega
              have q7 : ¬ 9223372036854775807 < S1.size + 1 + (ns xl).size + 1 := by omega
              have HZ1 := Lib.hid hz1
              have HW7 : Hid (∀ wx, Below w7.heap.size w7 wx → ∀ j : Nat, j < 4 → wx.cell? ⟨w.heap.size, j, none⟩ = some (.string (wdr j))) := Lib.hid (fun wx hb j hj => ((HB7.out.trans (hb.mono HB7.out.size)).cell (p := ⟨w.heap.size, j, none⟩) HZ.out).trans (HW.out j hj))
              have HB77 : Hid (∀ wx, Below w7.heap.size w7 wx → Below w.heap.size w wx) := Lib.hid (fun wx hb => HB.out.trans ((HB7.out.trans (hb.mono HB7.out.size)).mono HB.out.size))
              have HL7 : Hid (∀ wx, Below w7.heap.size w7 wx → w.heap.size < wx.heap.size) := Lib.hid (fun wx hb => Nat.lt_of_lt_of_le (Nat.lt_of_lt_of_le HZ.out HB7.out.size) hb.size)
              have HFIN : Hid (textG (S1 ++ ⟨#[32]⟩ ++ ns xl ++ ⟨#[10]⟩ : ByteArray).data.toList (L.drop (k + 1)) = R ∧ (S1 ++ ⟨#[32]⟩ ++ ns xl ++ ⟨#[10]⟩ : ByteArray).size ≤ (k + 1) * 50) := Lib.hid (by
                constructor
                · rw [← HT2.out]
                  congr 1
                  rw [HXD.out, if_pos (show (((2 : Nat) : Int)) = 2 from rfl), HXB.out]
                  simp [HS1.out, List.append_assoc]
                · rw [ByteArray.size_append, ByteArray.size_append, ByteArray.size_append, sz1, show (⟨#[10]⟩ : ByteArray).size = 1 from rfl]; omega)
              clear hS1 hz1 y0 y1' y2 z1 hdr
              go_wp2_with (go_at_call 23; (with_reducible refine (HN2.out _).mono ?_); rintro e w8 ⟨rfl, hb8⟩; have HB8 := Lib.hid hb8; clear hb8)
              go_roundw
              case rel => exact ⟨k + 1, _, by omega, by go_num, rfl, HFIN.out.1, HFIN.out.2, Lib.hid (HW7.out _ HB8.out), Lib.hid (HB77.out _ HB8.out), Lib.hid (HL7.out _ HB8.out)⟩
              case measure => simp [intOf]; omega
          · have kq : ((kk : Int) != 2) = true := by simp; omega
            have kq2 : ((kk : Int) == 2) = false := by simp; omega
            have l00 : xl = 0 := HC5.out (by omega)
            subst l00
            go_upto_region 12 with (fail)
            have hdr : Below wr.heap.size wr wr.drew := (Below.refl _ _).drew
            go_region_held3 (fun wx => wx.cell? ⟨b1, f1 + k * 3, none⟩ = some (.int .i64 xa) ∧ wx.cell? ⟨b1, f1 + k * 3 + 1, none⟩ = some (.int .i64 (kk : Int)) ∧ wx.cell? ⟨w.heap.size, kk, none⟩ = some (.string (wdr kk))) (first
                | with_reducible exact HEX.out _ HB7.out
                | with_reducible exact ⟨y0, y1, z1⟩
                | exact HEX.out _ hdr
                | go_keep) (first
                | (go_at_call 23; (with_reducible refine (HN1.out _).mono ?_); rintro e w7 ⟨rfl, hb7⟩; have HB7 : Hid (Below wr.heap.size wr w7) := Lib.hid (hdr.trans hb7); clear hb7))
            all_goals
              obtain ⟨S1, hS1⟩ : ∃ S1, S ++ wdr kk ++ ⟨#[32]⟩ ++ ns xa = S1 := ⟨_, rfl⟩
              have hz1 : S1.size ≤ k * 50 + 28 := by rw [← hS1, ByteArray.size_append, ByteArray.size_append, ByteArray.size_append, sz1]; omega
              have HS1 : Hid (S1.data.toList = S.data.toList ++ (txA ⟨xa, (kk : Int), 0⟩).data.toList) := Lib.hid (by rw [← hS1, HXA.out]; simp [ByteArray.append_assoc])
              rw [hS1]
              clear hS1
              obtain ⟨p0, p1, p2⟩ := HEX.out _ HB7.out
              have q5 : ¬ 9223372036854775807 < S1.size + 1 := by omega
              have HZ1 := Lib.hid hz1
              have HFIN : Hid (textG (S1 ++ ⟨#[10]⟩ : ByteArray).data.toList (L.drop (k + 1)) = R ∧ (S1 ++ ⟨#[10]⟩ : ByteArray).size ≤ (k + 1) * 50) := Lib.hid (by
                constructor
                · rw [← HT2.out]
                  congr 1
                  rw [HXD.out, if_neg (show ¬ ((kk : Int) = 2) by omega)]
                  simp [HS1.out]
                · rw [ByteArray.size_append, show (⟨#[10]⟩ : ByteArray).size = 1 from rfl]; omega)
              clear hz1 y0 y1 y2 z1 hdr
              go_wp2
              go_roundw
              case rel => exact ⟨k + 1, _, by omega, by go_num, rfl, HFIN.out.1, HFIN.out.2, Lib.hid (fun j hj => (HB7.out.cell (p := ⟨w.heap.size, j, none⟩) HZ.out).trans (HW.out j hj)), Lib.hid (HB.out.trans (HB7.out.mono HB.out.size)), Lib.hid (Nat.lt_of_lt_of_le HZ.out HB7.out.size)⟩
              case measure => simp [intOf]; omega
        · have hT := HT.out
          rw [if_neg hf] at hT
          have hc : (x.k < 1 ∧ R = ([], 11)) ∨ (1 ≤ x.k ∧ 3 < x.k ∧ R = ([], 11)) ∨ (1 ≤ x.k ∧ x.k ≤ 3 ∧ x.a < 1 ∧ R = ([], 2)) ∨ (1 ≤ x.k ∧ x.k ≤ 3 ∧ 1 ≤ x.a ∧ x.l < 0 ∧ R = ([], 2)) ∨ (1 ≤ x.k ∧ x.k ≤ 3 ∧ 1 ≤ x.a ∧ 0 < x.l ∧ x.k ≠ 2 ∧ R = ([], 2)) := by
            rw [← hT]
            clear hT HT
            unfold flT at hf ⊢
            by_cases a : x.k < 1 ∨ 3 < x.k
            · rw [if_pos a]
              rcases a with a | a
              · exact .inl ⟨a, rfl⟩
              · exact .inr (.inl ⟨by omega, a, rfl⟩)
            · rw [if_neg a] at hf ⊢
              by_cases b : x.a < 1 ∨ x.l < 0 ∨ (0 < x.l ∧ x.k ≠ 2)
              · rw [if_pos b]
                by_cases b1 : x.a < 1
                · exact .inr (.inr (.inl ⟨by omega, by omega, b1, rfl⟩))
                · by_cases b2 : x.l < 0
                  · exact .inr (.inr (.inr (.inl ⟨by omega, by omega, by omega, b2, rfl⟩)))
                  · exact .inr (.inr (.inr (.inr ⟨by omega, by omega, by omega, by omega, by omega, rfl⟩)))
              · rw [if_neg b] at hf; exact absurd rfl hf
          clear hT hf HT
          obtain ⟨xa, xk, xl⟩ := x
          dsimp only at y0 y1 y2 hc
          rcases hc with ⟨c1, hr⟩ | ⟨c1, c2, hr⟩ | ⟨c1, c2, c3, hr⟩ | ⟨c1, c2, c3, c4, hr⟩ | ⟨c1, c2, c3, c4, c5, hr⟩
          · have HO := Lib.hid hr
            clear hr
            go_wp2
            go_ret2
            exact ⟨by rw [HO.out]; rfl, by first | exact HB.out | exact below_drewN HB.out _⟩
          · have HO := Lib.hid hr
            clear hr
            go_wp2
            go_ret2
            exact ⟨by rw [HO.out]; rfl, by first | exact HB.out | exact below_drewN HB.out _⟩
          · have HO := Lib.hid hr
            clear hr
            go_wp2
            go_ret2
            exact ⟨by rw [HO.out]; rfl, by first | exact HB.out | exact below_drewN HB.out _⟩
          · have HO := Lib.hid hr
            clear hr
            go_wp2
            go_ret2
            exact ⟨by rw [HO.out]; rfl, by first | exact HB.out | exact below_drewN HB.out _⟩
          · have HO := Lib.hid hr
            have kq : (xk != 2) = true := by simp [c5]
            have lq : (xl != 0) = true := by simp; omega
            clear hr c5
            go_wp2
            go_ret2
            exact ⟨by rw [HO.out]; rfl, by first | exact HB.out | exact below_drewN HB.out _⟩
      · have l1 : ¬ (k : Int) < (L.length : Int) := by omega
        obtain rfl : k = L.length := by omega
        have HRT : Hid (R = (S.data.toList, 0)) := Lib.hid (by rw [← hT, List.drop_length]; rfl)
        clear hT
        go_wp2
        go_ret2
        exact ⟨by rw [HRT.out]; rfl, HB.out⟩
end Go.Proofs.YtfppplalgdopjaaDoor
