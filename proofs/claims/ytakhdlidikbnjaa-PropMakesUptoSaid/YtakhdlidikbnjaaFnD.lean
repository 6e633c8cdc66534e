/- Contracts of holding and value, of layer 6 (prop). -/
import Derived.Test.YtakhdlidikbnjaaFnC
namespace Go.Proofs.Ytakhdlidikbnjaa
open Go.RowKit

def cnt (bs : List Bool) (j : Nat) : Nat := (bs.take j).countP id
theorem cnt_succ {bs : List Bool} {j : Nat} (h : j < bs.length) : cnt bs (j + 1) = cnt bs j + if bs.getD j false then 1 else 0 := by
  unfold cnt
  rw [List.take_succ_eq_append_getElem h, List.countP_append]
  simp [List.getD, List.getElem?_eq_getElem h, List.countP_cons]
theorem cnt_le (bs : List Bool) (j : Nat) : cnt bs j ≤ j := by
  unfold cnt
  have := List.countP_le_length (p := id) (l := bs.take j)
  rw [List.length_take] at this
  omega
set_option maxHeartbeats 2000000 in
theorem pr_holding (t : Ex) (A : Option Addr) (c : Nat) (L : Option Addr) (cl : Nat) (l : List Bool) (w : World) (hkb : t.ks.length ≤ 1000000000) (hR : Rep w.heap.size w A t) (hL : RB w w.heap.size L l)
    (hv : ∀ i, i < t.ks.length → ∀ A c w, Rep w.heap.size w A (kd t.ks i) → RB w w.heap.size L l → Calls Try.prog 39 #[exV (kd t.ks i) A c, .slice L l.length cl] w (ValP w (val l (kd t.ks i)))) :
    Calls Try.prog 51 #[.slice A t.ks.length c, .slice L l.length cl] w fun e w' => e = .returned (.int .i64 ((valL l t.ks).countP id : Nat)) ∧ Below w.heap.size w w' := by
  have HR := Lib.hid hR
  have HL := Lib.hid hL
  have HV := Lib.hid hv
  have HN := Lib.hid (valL_len l t.ks)
  have HAT := Lib.hid (fun i h => valL_at l (ks := t.ks) (i := i) h)
  clear hR hL hv
  obtain ⟨bs, hbs⟩ : ∃ bs, valL l t.ks = bs := ⟨_, rfl⟩
  rw [hbs] at HN HAT ⊢
  clear hbs
  go_enter Try.func51, Try.ntmps51
  go_wp2
  go_loopw [5, 10] (fun m i wr => ∃ j : Nat, j ≤ t.ks.length ∧ i = .int .i64 (j : Int) ∧ m = .int .i64 (cnt bs j : Nat) ∧ Below w.heap.size w wr) (fun _ i _ => t.ks.length - (intOf i).toNat)
  case atStart => exact ⟨0, Nat.zero_le _, rfl, rfl, Below.refl _ _⟩
  case round =>
    obtain ⟨j, hj, rfl, rfl, hb⟩ := hrel
    have hcl := cnt_le bs j
    by_cases hlt : j < t.ks.length
    · have l1 : (j : Int) < (t.ks.length : Int) := by omega
      obtain ⟨b, f0, rfl, hbl, hc⟩ := HR.out.out (by omega)
      obtain ⟨ka, kc, c0, c1, c2, hRk⟩ := hc j hlt
      have d0 := (hb.cell (p := ⟨b, f0 + j * 3, none⟩) hbl).trans c0
      have d1 := (hb.cell (p := ⟨b, f0 + j * 3 + 1, none⟩) hbl).trans c1
      have d2 := (hb.cell (p := ⟨b, f0 + j * 3 + 2, none⟩) hbl).trans c2
      have hs := cnt_succ (bs := bs) (j := j) (by rw [HN.out]; exact hlt)
      have HC0 := fun ob => HV.out j hlt ka kc (wr.alloc ob) ((hRk.step hb).step ((Below.refl _ _).alloc (Nat.le_refl _) ob)) ((HL.out.step hb).step ((Below.refl _ _).alloc (Nat.le_refl _) ob))
      rw [← HAT.out j hlt] at HC0
      have HC := Lib.hid HC0
      clear hc c0 c1 c2 hRk HC0
      generalize kd t.ks j = u at *
      generalize bs.getD j false = q at *
      have HB4 : Hid (∀ ob, Below w.heap.size w (wr.alloc ob)) := Lib.hid (fun ob => al hb ob)
      cases q
      · have HS : Hid (cnt bs (j + 1) = cnt bs j) := Lib.hid (by rw [hs]; rfl)
        clear hs
        go_wp2_with (go_at_call 39; (with_reducible refine (HC.out _).mono ?_); rintro e w3 ⟨rfl, hb3⟩; have HB3 := Lib.hid (bt (HB4.out _) hb3); clear hb3)
        go_roundw
        case rel => exact ⟨j + 1, by omega, by go_num, by rw [HS.out], HB3.out⟩
        case measure => simp [intOf]; try omega
      · have HS : Hid (cnt bs (j + 1) = cnt bs j + 1) := Lib.hid (by rw [hs]; rfl)
        clear hs
        go_wp2_with (go_at_call 39; (with_reducible refine (HC.out _).mono ?_); rintro e w3 ⟨rfl, hb3⟩; have HB3 := Lib.hid (bt (HB4.out _) hb3); clear hb3)
        go_roundw
        case rel => exact ⟨j + 1, by omega, by go_num, by rw [HS.out]; go_num, HB3.out⟩
        case measure => simp [intOf]; try omega
    · have l1 : ¬ (j : Int) < (t.ks.length : Int) := by omega
      obtain rfl : j = t.ks.length := by omega
      have HE : Hid (cnt bs t.ks.length = bs.countP id) := Lib.hid (by unfold cnt; rw [← HN.out, List.take_length])
      go_wp2
      go_ret
      exact ⟨by rw [← HE.out]; rfl, hb⟩
end Go.Proofs.Ytakhdlidikbnjaa
