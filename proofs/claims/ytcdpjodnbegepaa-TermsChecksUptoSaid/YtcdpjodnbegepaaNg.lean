/- The specification's names and Names, of layer 30 (terms). -/
import Derived.Test.YtcdpjodnbegepaaNf
import Derived.Test.YtcdpjodnbegepaaFn2
import Derived.Deep.RegionHeld3
namespace Go.Proofs.Ytcdpjodnbegepaa
open Go.RowKit

theorem withK_len (l : List Bs) (s : Bs) : (withK l s).length ≤ l.length + 1 := by
  have h : ∀ l : List Bs, (insK s l).length = l.length + 1 := by
    intro l
    induction l with
    | nil => rfl
    | cons x r ih =>
      unfold insK
      split
      · rfl
      · simp [ih]
  unfold withK
  split
  · omega
  · rw [h]; exact Nat.le_refl _
theorem foldK_len : ∀ (L l : List Bs), (L.foldl withK l).length ≤ l.length + L.length
  | [], l => by simp
  | s :: L, l => by
    have h1 := foldK_len L (withK l s)
    have h2 := withK_len l s
    show (L.foldl withK (withK l s)).length ≤ l.length + (L.length + 1)
    omega
theorem foldK_step {o : Int} {ks : List Ex} {k : Nat} (h : k < ks.length) (l : List Bs) : (occL o (ks.drop k)).foldl withK l = (occL o (ks.drop (k + 1))).foldl withK ((occ o (kd ks k)).foldl withK l) := by
  rw [kd_drop h]
  show (occ o (kd ks k) ++ occL o (ks.drop (k + 1))).foldl withK l = _
  rw [List.foldl_append]
theorem szL_drop {ks : List Ex} {k : Nat} (h : k < ks.length) : szL (ks.drop k) = (kd ks k).sz + szL (ks.drop (k + 1)) := by
  rw [kd_drop h]; rfl
set_option maxRecDepth 100000 in
set_option maxHeartbeats 4000000 in
theorem rf_names (o : Int) : ∀ (n : Nat) t, t.sz ≤ n → n ≤ 100000000 → ∀ A c (l : List Bs) B d w, Rep w.heap.size w A t → RT w w.heap.size B l → l.length + t.sz ≤ 900000000 →
    Calls Try.prog 36 #[exV t A c, .int .i64 o, .slice B l.length d] w (TxP ((occ o t).foldl withK l) w) := by
  intro n
  induction n with
  | zero => intro t h; have := sz_eq t; omega
  | succ n ih =>
    intro t ht hn A c l B d w hR hT hlz
    have HIH := Lib.hid (fun t h => ih t h (by omega))
    have HR := Lib.hid hR
    have HT := Lib.hid hT
    have hlen := szL_len t.ks
    have hszt := sz_eq t
    have hkb : t.ks.length ≤ 100000000 := by omega
    clear ih hR hT
    have HB : Hid (∀ ob, Below w.heap.size w (w.alloc ob)) := Lib.hid (fun ob => (Below.refl _ _).alloc (Nat.le_refl _) ob)
    have HX : Hid (∀ wr, Below (w.alloc (.cells (exC t A c) 24)).heap.size (w.alloc (.cells (exC t A c) 24)) wr → (wr.cell? ⟨w.heap.size, 0, none⟩ = some (.int .i64 t.op) ∧ wr.cell? ⟨w.heap.size, 1, none⟩ = some (.int .i64 t.vr) ∧ wr.cell? ⟨w.heap.size, 2, none⟩ = some (.string t.nm) ∧ wr.cell? ⟨w.heap.size, 3, none⟩ = some (.slice A t.ks.length c)) ∧ Below w.heap.size w wr ∧ w.heap.size < wr.heap.size) := Lib.hid (fun wr h => by
        have hk := (Blk.new w 24 (exC t A c))
        have hsz : (w.alloc (.cells (exC t A c) 24)).heap.size = w.heap.size + 1 := by simp
        have hk2 : Blk wr w.heap.size 24 (exC t A c) := (h.block _ (by rw [hsz]; omega)).trans hk
        refine ⟨⟨hk2.cell 0, hk2.cell 1, hk2.cell 2, hk2.cell 3⟩, (HB.out _).trans (h.mono (HB.out _).size), ?_⟩
        have := h.size
        rw [hsz] at this
        omega)
    obtain ⟨L1, hL1⟩ : ∃ L1, (if t.op = o then withK l (key t.nm) else l) = L1 := ⟨_, rfl⟩
    have hl1 : L1.length ≤ l.length + 1 := by
      rw [← hL1]; split
      · exact withK_len _ _
      · omega
    obtain ⟨R, hR⟩ : ∃ R, (occ o t).foldl withK l = R := ⟨_, rfl⟩
    have HS : Hid ((occL o (t.ks.drop 0)).foldl withK L1 = R) := Lib.hid (by
      rw [← hR, occ_eq, List.foldl_append, ← hL1]
      show (occL o t.ks).foldl withK _ = _
      split <;> rfl)
    have HZ0 : Hid (L1.length + szL (t.ks.drop 0) ≤ 900000000) := Lib.hid (by show L1.length + szL t.ks ≤ _; omega)
    rw [hR]
    have HW : Hid (Calls Try.prog 58 #[.slice B l.length d, .string t.nm] (w.alloc (.cells (exC t A c) 24)) (TxP (withK l (key t.nm)) (w.alloc (.cells (exC t A c) 24)))) := Lib.hid (rf_With l B d t.nm _ (HT.out.step (HB.out _)) (by omega))
    have HBA : Hid (Below (w.alloc (.cells (exC t A c) 24)).heap.size (w.alloc (.cells (exC t A c) 24)) (w.alloc (.cells (exC t A c) 24))) := Lib.hid (Below.refl _ _)
    have HTA : Hid (RT (w.alloc (.cells (exC t A c) 24)) (w.alloc (.cells (exC t A c) 24)).heap.size B l) := Lib.hid (HT.out.step (HB.out _))
    clear hR
    by_cases ho : t.op = o
    · rw [if_pos ho] at hL1
      rw [hL1] at HW
      have ho1 : (t.op == o) = true := by simp [ho]
      clear ho hL1
      go_enter Try.func36, Try.ntmps36
      go_upto_region 3 with (go_at_call 58; (with_reducible refine HW.out.mono ?_); rintro e w2 ⟨B2, d2, rfl, hR2, hb2⟩; obtain ⟨⟨q0, q1, q2, q3⟩, hbw2, hz2⟩ := HX.out _ hb2; have HRT := Lib.hid hR2; have HB2 := Lib.hid hb2; clear hR2 hb2)
      go_wp2_with fail
      go_loopw [2, 7] (fun s2 i wr => ∃ (k : Nat) (lk : List Bs) (Bk : Option Addr) (dk : Nat), k ≤ t.ks.length ∧ i = .int .i64 (k : Int) ∧ s2 = .slice Bk lk.length dk ∧ Hid (RT wr wr.heap.size Bk lk) ∧ Hid ((occL o (t.ks.drop k)).foldl withK lk = R) ∧ Hid (lk.length + szL (t.ks.drop k) ≤ 900000000) ∧ Hid (Below (w.alloc (.cells (exC t A c) 24)).heap.size (w.alloc (.cells (exC t A c) 24)) wr)) (fun _ i _ => t.ks.length - (intOf i).toNat)
      case atStart => exact ⟨0, L1, B2, d2, Nat.zero_le _, rfl, rfl, HRT, HS, HZ0, HB2⟩
      case round =>
        obtain ⟨k, lk, Bk, dk, hk, rfl, rfl, HRk, HVk, HZk, HBk⟩ := hrel
        obtain ⟨⟨q0, q1, q2, q3⟩, hbw, hszr⟩ := HX.out _ HBk.out
        by_cases hlt : k < t.ks.length
        · have l1 : (k : Int) < (t.ks.length : Int) := by omega
          obtain ⟨b, f0, rfl, hbl, hc⟩ := HR.out.out (by omega)
          obtain ⟨ka, kc, c0, c1, c2, c3, hRk⟩ := hc k hlt
          have d0 := (hbw.cell (p := ⟨b, f0 + k * 4, none⟩) hbl).trans c0
          have d1 := (hbw.cell (p := ⟨b, f0 + k * 4 + 1, none⟩) hbl).trans c1
          have d2 := (hbw.cell (p := ⟨b, f0 + k * 4 + 2, none⟩) hbl).trans c2
          have d3 := (hbw.cell (p := ⟨b, f0 + k * 4 + 3, none⟩) hbl).trans c3
          have hu := kd_sz hlt
          have hzk := HZk.out
          have hvk := HVk.out
          rw [szL_drop hlt] at hzk
          rw [foldK_step hlt] at hvk
          have hln := foldK_len (occ o (kd t.ks k)) lk
          have hoc := occ_le o (kd t.ks k)
          have HC := Lib.hid (HIH.out (kd t.ks k) (by omega) ka kc lk Bk dk wr (hRk.step hbw) HRk.out (by omega))
          have HZ2 : Hid (((occ o (kd t.ks k)).foldl withK lk).length + szL (t.ks.drop (k + 1)) ≤ 900000000) := Lib.hid (by omega)
          have HV2 := Lib.hid hvk
          clear hc c0 c1 c2 c3 hRk hzk hvk hln hoc hu
          generalize (occ o (kd t.ks k)).foldl withK lk = lk2 at HC HZ2 HV2
          generalize kd t.ks k = u at *
          go_wp2_with (go_at_call 36; (with_reducible refine HC.out.mono ?_); rintro e w3 ⟨B3, e3, rfl, hR3, hb3⟩; have HR3 := Lib.hid hR3; have HB3 := Lib.hid (bt HBk.out hb3); clear hR3 hb3)
          go_roundw
          case rel => exact ⟨k + 1, lk2, B3, e3, by omega, by go_num, rfl, HR3, HV2, HZ2, HB3⟩
          case measure => simp [intOf]; try omega
        · have l1 : ¬ (k : Int) < (t.ks.length : Int) := by omega
          obtain rfl : k = t.ks.length := by omega
          have hvk := HVk.out
          rw [List.drop_length] at hvk
          have hvk2 : lk = R := hvk
          subst hvk2
          go_wp2
          go_ret
          exact ⟨Bk, dk, rfl, HRk.out, hbw⟩
    · rw [if_neg ho] at hL1
      subst hL1
      have ho1 : (t.op == o) = false := by simp [ho]
      clear ho HW
      go_enter Try.func36, Try.ntmps36
      go_wp2_with fail
      go_loopw [2, 7] (fun s2 i wr => ∃ (k : Nat) (lk : List Bs) (Bk : Option Addr) (dk : Nat), k ≤ t.ks.length ∧ i = .int .i64 (k : Int) ∧ s2 = .slice Bk lk.length dk ∧ Hid (RT wr wr.heap.size Bk lk) ∧ Hid ((occL o (t.ks.drop k)).foldl withK lk = R) ∧ Hid (lk.length + szL (t.ks.drop k) ≤ 900000000) ∧ Hid (Below (w.alloc (.cells (exC t A c) 24)).heap.size (w.alloc (.cells (exC t A c) 24)) wr)) (fun _ i _ => t.ks.length - (intOf i).toNat)
      case atStart => exact ⟨0, l, B, d, Nat.zero_le _, rfl, rfl, HTA, HS, HZ0, HBA⟩
      case round =>
        obtain ⟨k, lk, Bk, dk, hk, rfl, rfl, HRk, HVk, HZk, HBk⟩ := hrel
        obtain ⟨⟨q0, q1, q2, q3⟩, hbw, hszr⟩ := HX.out _ HBk.out
        by_cases hlt : k < t.ks.length
        · have l1 : (k : Int) < (t.ks.length : Int) := by omega
          obtain ⟨b, f0, rfl, hbl, hc⟩ := HR.out.out (by omega)
          obtain ⟨ka, kc, c0, c1, c2, c3, hRk⟩ := hc k hlt
          have d0 := (hbw.cell (p := ⟨b, f0 + k * 4, none⟩) hbl).trans c0
          have d1 := (hbw.cell (p := ⟨b, f0 + k * 4 + 1, none⟩) hbl).trans c1
          have d2 := (hbw.cell (p := ⟨b, f0 + k * 4 + 2, none⟩) hbl).trans c2
          have d3 := (hbw.cell (p := ⟨b, f0 + k * 4 + 3, none⟩) hbl).trans c3
          have hu := kd_sz hlt
          have hzk := HZk.out
          have hvk := HVk.out
          rw [szL_drop hlt] at hzk
          rw [foldK_step hlt] at hvk
          have hln := foldK_len (occ o (kd t.ks k)) lk
          have hoc := occ_le o (kd t.ks k)
          have HC := Lib.hid (HIH.out (kd t.ks k) (by omega) ka kc lk Bk dk wr (hRk.step hbw) HRk.out (by omega))
          have HZ2 : Hid (((occ o (kd t.ks k)).foldl withK lk).length + szL (t.ks.drop (k + 1)) ≤ 900000000) := Lib.hid (by omega)
          have HV2 := Lib.hid hvk
          clear hc c0 c1 c2 c3 hRk hzk hvk hln hoc hu
          generalize (occ o (kd t.ks k)).foldl withK lk = lk2 at HC HZ2 HV2
          generalize kd t.ks k = u at *
          go_wp2_with (go_at_call 36; (with_reducible refine HC.out.mono ?_); rintro e w3 ⟨B3, e3, rfl, hR3, hb3⟩; have HR3 := Lib.hid hR3; have HB3 := Lib.hid (bt HBk.out hb3); clear hR3 hb3)
          go_roundw
          case rel => exact ⟨k + 1, lk2, B3, e3, by omega, by go_num, rfl, HR3, HV2, HZ2, HB3⟩
          case measure => simp [intOf]; try omega
        · have l1 : ¬ (k : Int) < (t.ks.length : Int) := by omega
          obtain rfl : k = t.ks.length := by omega
          have hvk := HVk.out
          rw [List.drop_length] at hvk
          have hvk2 : lk = R := hvk
          subst hvk2
          go_wp2
          go_ret
          exact ⟨Bk, dk, rfl, HRk.out, hbw⟩
def NamS (L M : List Bs) (w : World) (e : Ending) (w' : World) : Prop := ∃ A c B d, e = .returned (.tuple #[.slice A L.length c, .slice B M.length d]) ∧ RT w' w'.heap.size A L ∧ RT w' w'.heap.size B M ∧ Below w.heap.size w w'
set_option maxRecDepth 100000 in
set_option maxHeartbeats 4000000 in
theorem rf_Names (t : Ex) (A : Option Addr) (c : Nat) (w : World) (hs : t.sz ≤ 100000000) (hR : Rep w.heap.size w A t) : Calls Try.prog 12 #[exV t A c] w (NamS (setK (occ 3 t)) (setK (occ 4 t)) w) := by
  have HN : Hid (∀ o wx, Below w.heap.size w wx → Calls Try.prog 36 #[exV t A c, .int .i64 o, .slice none 0 0] wx (TxP (setK (occ o t)) wx)) := Lib.hid (fun o wx h => by
    have h2 := rf_names o t.sz t (Nat.le_refl _) hs A c [] none 0 wx (hR.step h) RT.nil (by simp; omega)
    rw [foldK_set] at h2
    exact h2)
  obtain ⟨W, hW⟩ : ∃ W, w.alloc (.cells #[.int .i64 t.op, .int .i64 t.vr, .string t.nm, .slice A t.ks.length c] 24) = W := ⟨_, rfl⟩
  have hk : Blk W w.heap.size 24 #[.int .i64 t.op, .int .i64 t.vr, .string t.nm, .slice A t.ks.length c] := by rw [← hW]; exact Blk.new _ _ _
  have hbW : Below w.heap.size w W := by rw [← hW]; exact al (Below.refl _ _) _
  have HX : Hid (∀ wx, Below W.heap.size W wx → (wx.cell? ⟨w.heap.size, 0, none⟩ = some (.int .i64 t.op) ∧ wx.cell? ⟨w.heap.size, 1, none⟩ = some (.int .i64 t.vr) ∧ wx.cell? ⟨w.heap.size, 2, none⟩ = some (.string t.nm) ∧ wx.cell? ⟨w.heap.size, 3, none⟩ = some (.slice A t.ks.length c)) ∧ Below w.heap.size w wx) := Lib.hid (fun wx h => by
    have k := hk.below h hk.lt
    exact ⟨⟨k.cell 0, k.cell 1, k.cell 2, k.cell 3⟩, bt hbW h⟩)
  have HWW := Lib.hid hW
  have HDR : Hid (Below W.heap.size W W.drew) := Lib.hid (Below.refl _ _).drew
  have HN3 : Hid (∀ wx, Below w.heap.size w wx → Calls Try.prog 36 #[exV t A c, .int .i64 3, .slice none 0 0] wx (TxP (setK (occ 3 t)) wx)) := Lib.hid (fun wx h => HN.out 3 wx h)
  have HN4 : Hid (∀ wx, Below w.heap.size w wx → Calls Try.prog 36 #[exV t A c, .int .i64 4, .slice none 0 0] wx (TxP (setK (occ 4 t)) wx)) := Lib.hid (fun wx h => HN.out 4 wx h)
  clear HN hk hbW hW hR hs
  generalize setK (occ 3 t) = L at *
  generalize setK (occ 4 t) = M at *
  show Calls Try.prog 12 #[.agg #[.int .i64 t.op, .int .i64 t.vr, .string t.nm, .slice A t.ks.length c]] w _
  go_enter Try.func12, Try.ntmps12
  go_upto_region 1 with (go_at_call 999)
  rw [HWW.out]
  go_region_held3 (fun wx => wx.cell? ⟨w.heap.size, 0, none⟩ = some (.int .i64 t.op) ∧ wx.cell? ⟨w.heap.size, 1, none⟩ = some (.int .i64 t.vr) ∧ wx.cell? ⟨w.heap.size, 2, none⟩ = some (.string t.nm) ∧ wx.cell? ⟨w.heap.size, 3, none⟩ = some (.slice A t.ks.length c)) (first | with_reducible exact (HX.out _ H4.out).1 | with_reducible exact (HX.out _ H3.out).1 | exact (HX.out _ HDR.out).1 | go_keep) ((first
    | (go_at_call 36; (with_reducible refine (HN4.out _ (HX.out _ H3.out).2).mono ?_); rintro e w4 ⟨B4, d4, rfl, hR4, hb4⟩; have H4 := Lib.hid (bt H3.out hb4); have R4 := Lib.hid hR4; have R3b := Lib.hid (R3.out.step hb4); clear hR4 hb4)
    | (go_at_call 36; (with_reducible refine (HN3.out _ (HX.out _ HDR.out).2).mono ?_); rintro e w3 ⟨B3, d3, rfl, hR3, hb3⟩; have H3 := Lib.hid (bt HDR.out hb3); have R3 := Lib.hid hR3; clear hR3 hb3)))
  all_goals go_wp2
  all_goals go_ret2
  all_goals exact ⟨B3, d3, B4, d4, rfl, R3b.out, R4.out, (HX.out _ H4.out).2⟩
end Go.Proofs.Ytcdpjodnbegepaa
