/- Right of the specification; layer 42 (sched). -/
import Derived.Test.YtjohdkcgodaeiaaM2
import Derived.Test.YtjohdkcgodaeiaaQ6
namespace Go.Proofs.Ytjohdkcgodaeiaa
open Go.RowKit

set_option maxRecDepth 100000 in
set_option maxHeartbeats 16000000 in
theorem r_Right (A AO AL : Option Addr) (ca co cl : Nat) (rows : List Rw) (o : List Int) (T : List St) (w : World) (hP : RR w w.heap.size A rows) (hO : RI w w.heap.size AO o) (hT : StP w AL T)
    (hr : rows.length ≤ 100) (hol : o.length ≤ 100) (hl : T.length ≤ 100) (hlp : ∀ j, j < rows.length → (pr rows j).length ≤ 1000) (hlo : ∀ k, k < T.length → (stAt T k).2.2.2.length ≤ 1000) :
    Calls Try.prog 13 #[.slice A rows.length ca, .slice AO o.length co, .slice AL T.length cl] w (CompR w (QR rows o (T.map stK))) := by
  have HP := Lib.hid hP
  have HO := Lib.hid hO
  have HT := Lib.hid hT
  have HLP := Lib.hid hlp
  have HLO := Lib.hid hlo
  have HST : Hid (∀ k, (kAt (T.map stK) k).1 = (stAt T k).1 ∧ (kAt (T.map stK) k).2 = (stAt T k).2.2.2) := Lib.hid (fun k => ⟨kAt_fst T k, kAt_snd T k⟩)
  obtain ⟨K, hK⟩ : ∃ K, T.map stK = K := ⟨_, rfl⟩
  have HKL : Hid (K.length = T.length) := Lib.hid (by rw [← hK, List.length_map])
  rw [hK] at HST ⊢

  clear hP hO hT hlp hlo hK
  by_cases hlr : T.length = rows.length
  · have hne : ((T.length : Int) != (rows.length : Int)) = false := by rw [hlr]; simp
    have HLR := Lib.hid hlr
    clear hlr
    go_enter Try.func13, Try.ntmps13
    go_wp2
    clear hne
    go_loopw [7] (fun i wr => ∃ p q : Nat, p ≤ rows.length ∧ i = .int .i64 (p : Int) ∧ Hid (∀ r, r < p → cntPart K K.length (r : Int) = 1) ∧ wr = w.drewN q) (fun i _ => rows.length - (intOf i).toNat)
    case atStart => exact ⟨0, 0, Nat.zero_le _, rfl, Lib.hid (fun r hr => absurd hr (by omega)), rfl⟩
    case round =>
      obtain ⟨p, q, hp, rfl, HPC, hwr⟩ := hrel
      have HWR := Lib.hid hwr
      by_cases hpl : p < rows.length
      · have h1 : (p : Int) < (rows.length : Int) := by omega
        clear hwr
        go_upto_region 8 with (fail)
        go_loopw [8, 9] (fun n i w2 => ∃ t : Nat, t ≤ T.length ∧ i = .int .i64 (t : Int) ∧ n = .int .i64 ((cntPart K t (p : Int) : Nat) : Int) ∧ w2 = w.drewN q) (fun _ i _ => T.length - (intOf i).toNat)
        case atStart => exact ⟨0, Nat.zero_le _, rfl, rfl, HWR.out⟩
        case round =>
          obtain ⟨t, ht, rfl, rfl, hw2⟩ := hrel
          have HW2 := Lib.hid hw2
          by_cases htl : t < T.length
          · have g1 : (t : Int) < (T.length : Int) := by omega
            have g0 : (0 : Int) ≤ (t : Int) := by omega
            obtain ⟨b, off, rfl, hbl, hc⟩ := (HT.out.1) (by omega)
            have c1 : wr.cell? ⟨b, off + t * 2, none⟩ = some (.int .i64 (stAt T t).1) := by rw [hw2]; exact (hc t htl).1
            have hs := cntPart_succ K t (p : Int)
            have hcl := cntPart_le K t (p : Int)
            rw [(HST.out t).1] at hs
            obtain ⟨x, hx⟩ : ∃ x, (stAt T t).1 = x := ⟨_, rfl⟩
            rw [hx] at c1 hs
            obtain ⟨c, hcc⟩ : ∃ c, cntPart K t (p : Int) = c := ⟨_, rfl⟩
            obtain ⟨c2, hcc2⟩ : ∃ c, cntPart K (t + 1) (p : Int) = c := ⟨_, rfl⟩
            rw [hcc] at hs hcl ⊢
            rw [hcc2] at hs
            have HC2 := Lib.hid hcc2
            have hwp : IntKind.i64.wrap ((c : Int) + 1) = (c : Int) + 1 := IntWalk.i64_in _ (by omega)
            clear hc hx hcc hcc2 hw2
            by_cases hxp : x = (p : Int)
            · have g2 : (x == (p : Int)) = true := by simp [hxp]
              have HE : Hid (c2 = c + 1) := Lib.hid (by rw [hs, if_pos hxp])
              clear hs hxp
              go_wp2
              go_roundw
              case rel => exact ⟨t + 1, by omega, by go_num, by rw [HC2.out, HE.out]; go_num, HW2.out⟩
              case measure => simp [intOf]; omega
            · have g2 : (x == (p : Int)) = false := by rw [beq_eq_false_iff_ne]; exact hxp
              have HE : Hid (c2 = c) := Lib.hid (by rw [hs, if_neg hxp]; rfl)
              clear hs hxp
              go_wp2
              go_roundw
              case rel => exact ⟨t + 1, by omega, by go_num, by rw [HC2.out, HE.out], HW2.out⟩
              case measure => simp [intOf]; omega
          · obtain rfl : t = T.length := by omega
            have g1 : ¬ (T.length : Int) < (T.length : Int) := by omega
            obtain ⟨c, hcc⟩ : ∃ c, cntPart K T.length (p : Int) = c := ⟨_, rfl⟩
            rw [hcc]
            have HCC : Hid (cntPart K K.length (p : Int) = c) := Lib.hid (by rw [HKL.out]; exact hcc)
            clear hcc hw2
            by_cases hc1 : c = 1
            · have g2 : ((c : Int) != 1) = false := by rw [hc1]; rfl
              have HN : Hid (∀ r, r < p + 1 → cntPart K K.length (r : Int) = 1) := Lib.hid (fun r hr => by
                by_cases e : r = p
                · subst e; rw [HCC.out]; exact hc1
                · exact HPC.out r (by omega))
              clear hc1
              go_wp2
              go_roundw
              case rel => exact ⟨p + 1, q, by omega, by go_num, HN, HW2.out⟩
              case measure => simp [intOf]; omega
            · have g2 : ((c : Int) != 1) = true := by rw [bne_iff_ne]; omega
              have HN : Hid (¬ QR rows o K) := Lib.hid (fun h => hc1 (by rw [← HCC.out]; exact h.2.1 p hpl))
              clear hc1
              go_wp2
              go_ret
              exact ⟨false, rfl, ⟨(fun e => by cases e), (fun h => absurd h HN.out)⟩, by rw [HW2.out]; exact below_drewN (Below.refl _ _) _⟩
      · obtain rfl : p = rows.length := by omega
        have h1 : ¬ (rows.length : Int) < (rows.length : Int) := by omega
        have HCP : Hid (CompP rows.length K) := Lib.hid (comp_cnt.2 ⟨by rw [HKL.out, HLR.out], HPC.out⟩)
        clear hwr
        go_wp2
        go_loopw [10] (fun i w2 => ∃ u q : Nat, u ≤ o.length ∧ i = .int .i64 (u : Int) ∧ Hid (∀ r, r < u → K.length = 0 ∨ cntOut K K.length (li o r) = 1) ∧ w2 = w.drewN q) (fun i _ => o.length - (intOf i).toNat)
        case atStart => exact ⟨0, q, Nat.zero_le _, rfl, Lib.hid (fun r hr => absurd hr (by omega)), HWR.out⟩
        case round =>
          obtain ⟨u, q3, hu, rfl, HUC, hw3⟩ := hrel
          have HW3 := Lib.hid hw3
          by_cases hul : u < o.length
          · have g1 : (u : Int) < (o.length : Int) := by omega
            have g0 : (0 : Int) ≤ (u : Int) := by omega
            obtain ⟨bo, oo, rfl, hbo, hco⟩ := HO.out (by omega)
            have HX : Hid (∀ n, (w.drewN n).cell? ⟨bo, oo + u, none⟩ = some (.int .i64 (li o u))) := Lib.hid (fun n => hco u hul)
            obtain ⟨x, hx⟩ : ∃ x, li o u = x := ⟨_, rfl⟩
            rw [hx] at HX
            have HXE := Lib.hid hx
            clear hco hx hw3
            go_upto_region 19 with (fail)
            go_loopw [11, 12] (fun n i w2 => ∃ t q : Nat, t ≤ T.length ∧ i = .int .i64 (t : Int) ∧ n = .int .i64 ((cntOut K t x : Nat) : Int) ∧ w2 = w.drewN q) (fun _ i _ => T.length - (intOf i).toNat)
            case atStart => exact ⟨0, q3, Nat.zero_le _, rfl, rfl, HW3.out⟩
            case round =>
              obtain ⟨t, q4, ht, rfl, rfl, hw4⟩ := hrel
              have HW4 := Lib.hid hw4
              by_cases htl : t < T.length
              · have f1 : (t : Int) < (T.length : Int) := by omega
                have f0 : (0 : Int) ≤ (t : Int) := by omega
                obtain ⟨b, off, rfl, hbl, hc⟩ := (HT.out.1) (by omega)
                have c2 : wr.cell? ⟨b, off + t * 2 + 1, none⟩ = some (rcell (stAt T t).2) := by rw [hw4]; exact (hc t htl).2
                have c3 : wr.cell? ⟨bo, oo + u, none⟩ = some (.int .i64 x) := by rw [hw4]; exact HX.out q4
                have hro := HT.out.2 t htl
                have hol2 := HLO.out t htl
                have hs := cntOut_succ K t x
                have hcl := cntOut_le K t x
                rw [(HST.out t).2] at hs
                unfold rcell at c2
                obtain ⟨⟨p2, Ak, ck, O⟩, hst⟩ : ∃ r, stAt T t = r := ⟨_, rfl⟩
                rw [hst] at c2 hro hol2 hs
                dsimp only at c2 hro hol2 hs
                have HQ2 : Hid (∀ n, Calls Try.prog 28 #[.slice Ak O.length ck, .int .i64 x] (wr.drewN n) fun e w' => e = .returned (.bool (mem O x)) ∧ wr.drewN n = w') := Lib.hid (fun n => by rw [hw4]; exact ref_In _ _ _ _ _ ((hro.drewN q4).drewN n) (by omega))
                have HREL : Hid (∀ n, wr.drewN n = w.drewN (q4 + n)) := Lib.hid (fun n => by rw [hw4, World.drewN_drewN])
                obtain ⟨c, hcc⟩ : ∃ c, cntOut K t x = c := ⟨_, rfl⟩
                obtain ⟨c2', hcc2⟩ : ∃ c, cntOut K (t + 1) x = c := ⟨_, rfl⟩
                rw [hcc] at hs hcl ⊢
                rw [hcc2] at hs
                have HC2 := Lib.hid hcc2
                have hwp : IntKind.i64.wrap ((c : Int) + 1) = (c : Int) + 1 := IntWalk.i64_in _ (by omega)
                obtain ⟨q2, hq2⟩ : ∃ q, mem O x = q := ⟨_, rfl⟩
                rw [hq2] at HQ2 hs
                have HS := Lib.hid hs
                clear hc hst hro hs hcc hcc2 hq2 hw4
                cases q2
                · have HE : Hid (c2' = c) := Lib.hid (by rw [HS.out]; simp)
                  go_wp2_with fail
                  go_quiet ((go_at_call 28; exact quiet_left (HQ2.out _)))
                  go_wp2
                  go_roundw
                  case rel => exact ⟨t + 1, _, by omega, by go_num, by rw [HC2.out, HE.out], HREL.out _⟩
                  case measure => simp [intOf]; omega
                · have HE : Hid (c2' = c + 1) := Lib.hid (by rw [HS.out]; simp)
                  go_wp2_with fail
                  go_quiet ((go_at_call 28; exact quiet_left (HQ2.out _)))
                  go_wp2
                  go_roundw
                  case rel => exact ⟨t + 1, _, by omega, by go_num, by rw [HC2.out, HE.out]; go_num, HREL.out _⟩
                  case measure => simp [intOf]; omega
              · obtain rfl : t = T.length := by omega
                have f1 : ¬ (T.length : Int) < (T.length : Int) := by omega
                obtain ⟨c, hcc⟩ : ∃ c, cntOut K T.length x = c := ⟨_, rfl⟩
                rw [hcc]
                have HCC : Hid (cntOut K K.length x = c) := Lib.hid (by rw [HKL.out]; exact hcc)
                have HXM : Hid (x ∈ o) := Lib.hid (by rw [← HXE.out]; exact li_mem hul)
                clear hcc hw4
                by_cases hc1 : c = 1
                · have g2 : ((c : Int) != 1) = false := by rw [hc1]; rfl
                  have HN : Hid (∀ r, r < u + 1 → K.length = 0 ∨ cntOut K K.length (li o r) = 1) := Lib.hid (fun r hr => by
                    by_cases e : r = u
                    · subst e; rw [HXE.out, HCC.out]; exact .inr hc1
                    · exact HUC.out r (by omega))
                  clear hc1
                  go_wp2
                  go_roundw
                  case rel => exact ⟨u + 1, q4, by omega, by go_num, HN, HW4.out⟩
                  case measure => simp [intOf]; omega
                · have g2 : ((c : Int) != 1) = true := by rw [bne_iff_ne]; omega
                  by_cases hT0 : 0 < T.length
                  · have g3 : (0 : Int) < (T.length : Int) := by omega
                    have HN : Hid (¬ QR rows o K) := Lib.hid (fun h => by
                      rcases h.2.2.1 x HXM.out with h2 | h2
                      · rw [HKL.out] at h2; omega
                      · exact hc1 (by rw [← HCC.out]; exact h2))
                    clear hc1
                    go_wp2
                    go_ret
                    exact ⟨false, rfl, ⟨(fun e => by cases e), (fun h => absurd h HN.out)⟩, by rw [HW4.out]; exact below_drewN (Below.refl _ _) _⟩
                  · have g3 : ¬ (0 : Int) < (T.length : Int) := by omega
                    have HN : Hid (∀ r, r < u + 1 → K.length = 0 ∨ cntOut K K.length (li o r) = 1) := Lib.hid (fun r hr => .inl (by rw [HKL.out]; omega))
                    clear hc1
                    go_wp2
                    go_roundw
                    case rel => exact ⟨u + 1, q4, by omega, by go_num, HN, HW4.out⟩
                    case measure => simp [intOf]; omega
          · obtain rfl : u = o.length := by omega
            have g1 : ¬ (o.length : Int) < (o.length : Int) := by omega
            have HOC : Hid (∀ v ∈ o, K.length = 0 ∨ cntOut K K.length v = 1) := Lib.hid (fun v hv => by
              obtain ⟨r, hr, e⟩ := List.getElem_of_mem hv
              have := HUC.out r hr
              rw [li_get hr, e] at this
              exact this)
            clear hw3
            go_wp2
            go_loopw [13] (fun i w2 => ∃ r q : Nat, r ≤ T.length ∧ i = .int .i64 (r : Int) ∧ Hid (∀ s, s < r → ∀ v ∈ (kAt K s).2, okOut rows o K s v) ∧ w2 = w.drewN q) (fun i _ => T.length - (intOf i).toNat)
            case atStart => exact ⟨0, q3, Nat.zero_le _, rfl, Lib.hid (fun r hr => absurd hr (by omega)), HW3.out⟩
            case round =>
              obtain ⟨r, q5, hr5, rfl, HRC, hw5⟩ := hrel
              have HW5 := Lib.hid hw5
              by_cases hrl : r < T.length
              · have f1 : (r : Int) < (T.length : Int) := by omega
                have f0 : (0 : Int) ≤ (r : Int) := by omega
                obtain ⟨b, off, rfl, hbl, hc⟩ := (HT.out.1) (by omega)
                have HCO : Hid (∀ n, (w.drewN n).cell? ⟨b, off + r * 2 + 1, none⟩ = some (rcell (stAt T r).2)) := Lib.hid (fun n => (hc r hrl).2)
                have HC0 : Hid (∀ n k, k < T.length → (w.drewN n).cell? ⟨b, off + k * 2, none⟩ = some (.int .i64 (stAt T k).1)) := Lib.hid (fun n k hk => (hc k hk).1)
                have HRO := Lib.hid (HT.out.2 r hrl)
                have hol2 := HLO.out r hrl
                have HKO := Lib.hid (HST.out r).2
                unfold rcell at HCO
                obtain ⟨⟨p2, Ak, ck, O⟩, hst⟩ : ∃ q, stAt T r = q := ⟨_, rfl⟩
                rw [hst] at HCO HRO hol2 HKO
                dsimp only at HCO HRO hol2 HKO
                clear hc hst hw5
                go_upto_region 29 with (fail)
                go_loopw [14] (fun i w2 => ∃ j q : Nat, j ≤ O.length ∧ i = .int .i64 (j : Int) ∧ Hid (∀ t, t < j → okOut rows o K r (li O t)) ∧ w2 = w.drewN q) (fun i _ => O.length - (intOf i).toNat)
                case atStart => exact ⟨0, q5, Nat.zero_le _, rfl, Lib.hid (fun t ht => absurd ht (by omega)), HW5.out⟩
                case round =>
                  obtain ⟨j, q6, hj, rfl, HJC, hw6⟩ := hrel
                  have HW6 := Lib.hid hw6
                  have c2 : wr.cell? ⟨b, off + r * 2 + 1, none⟩ = some (.slice Ak O.length ck) := by rw [hw6]; exact HCO.out q6
                  by_cases hjl : j < O.length
                  · have g1' : (j : Int) < (O.length : Int) := by omega
                    have g0' : (0 : Int) ≤ (j : Int) := by omega
                    obtain ⟨bx, ox, rfl, hbx, hcx⟩ := HRO.out (by omega)
                    have HCX : Hid (∀ n, (w.drewN n).cell? ⟨bx, ox + j, none⟩ = some (.int .i64 (li O j))) := Lib.hid (fun n => hcx j hjl)
                    have hxm := li_mem hjl
                    obtain ⟨x, hx⟩ : ∃ x, li O j = x := ⟨_, rfl⟩
                    rw [hx] at HCX hxm
                    have HXE := Lib.hid hx
                    have HXM : Hid (x ∈ (kAt K r).2) := Lib.hid (by rw [HKO.out]; exact hxm)
                    have c3 : wr.cell? ⟨bx, ox + j, none⟩ = some (.int .i64 x) := by rw [hw6]; exact HCX.out q6
                    have HIN : Hid (Calls Try.prog 28 #[.slice AO o.length co, .int .i64 x] wr fun e w' => e = .returned (.bool (mem o x)) ∧ wr = w') := Lib.hid (by rw [hw6]; exact ref_In _ _ _ _ _ (HO.out.drewN q6) (by omega))
                    obtain ⟨qo, hqo⟩ : ∃ q, mem o x = q := ⟨_, rfl⟩
                    rw [hqo] at HIN
                    have HQO := Lib.hid hqo
                    clear hcx hx hxm hqo hw6
                    cases qo
                    · have HN : Hid (¬ QR rows o K) := Lib.hid (fun h => by
                        have h1 := (h.2.2.2 r (by rw [HKL.out]; exact hrl) x HXM.out).1
                        exact memF.1 HQO.out h1)
                      go_wp2_with (go_at_call 28; refine HIN.out.mono ?_; rintro e w9 ⟨rfl, rfl⟩)
                      go_ret
                      exact ⟨false, rfl, ⟨(fun e => by cases e), (fun h => absurd h HN.out)⟩, by rw [HW6.out]; exact below_drewN (Below.refl _ _) _⟩
                    · have hwr1 : IntKind.i64.wrap ((r : Int) + 1) = (r : Int) + 1 := IntWalk.i64_in _ (by omega)
                      have hwr2 : wrap64 ((r : Int) + 1) = (r : Int) + 1 := by unfold wrap64; omega
                      go_upto_region 34 with (go_at_call 28; refine HIN.out.mono ?_; rintro e w9 ⟨rfl, hw9⟩; subst hw9)
                      have hr1l : r + 1 ≤ T.length := hrl
                      have hri : Value.int .i64 ((r : Int) + 1) = Value.int .i64 ((r + 1 : Nat) : Int) := by rw [Int.natCast_add]; rfl
                      clear hwr1 hwr2
                      go_loopw [15] (fun i w2 => ∃ k q : Nat, r + 1 ≤ k ∧ k ≤ T.length ∧ i = .int .i64 (k : Int) ∧ Hid (∀ t, r < t → t < k → x ∉ pr rows (kAt K t).1.toNat) ∧ w2 = w.drewN q) (fun i _ => T.length - (intOf i).toNat)
                      case atStart => exact ⟨r + 1, q6, Nat.le_refl _, hr1l, hri, Lib.hid (fun t h1 h2 => absurd h2 (Nat.not_lt.2 h1)), HW6.out⟩
                      case round =>
                        obtain ⟨k, q7, hk1, hk2, rfl, HKC, hw7⟩ := hrel
                        have HW7 := Lib.hid hw7
                        by_cases hkl : k < T.length
                        · have d1 : (k : Int) < (T.length : Int) := by omega
                          have d0 : (0 : Int) ≤ (k : Int) := by omega
                          have a1 : wr.cell? ⟨b, off + k * 2, none⟩ = some (.int .i64 (stAt T k).1) := by rw [hw7]; exact HC0.out q7 k hkl
                          have a2 : wr.cell? ⟨b, off + r * 2 + 1, none⟩ = some (.slice (some ⟨bx, ox, none⟩) O.length ck) := by rw [hw7]; exact HCO.out q7
                          have a3 : wr.cell? ⟨bx, ox + j, none⟩ = some (.int .i64 x) := by rw [hw7]; exact HCX.out q7
                          obtain ⟨hm0, hm1, _⟩ := HCP.out.2 k (by rw [HKL.out]; exact hkl)
                          rw [(HST.out k).1] at hm0 hm1
                          obtain ⟨m, hm⟩ : ∃ m : Nat, (stAt T k).1 = (m : Int) := ⟨(stAt T k).1.toNat, by omega⟩
                          have HMK : Hid ((kAt K k).1.toNat = m) := Lib.hid (by rw [(HST.out k).1, hm]; rfl)
                          rw [hm] at a1 hm0 hm1
                          have hml : m < rows.length := by omega
                          obtain ⟨bp, op, rfl, hbp, hcp⟩ := HP.out.at_ (by omega)
                          have a4 : wr.cell? ⟨bp, op + m, none⟩ = some (rcell (rw_ rows m)) := by rw [hw7]; exact hcp m hml
                          have hrm := (HP.out.row m hml).1
                          have hlm := HLP.out m hml
                          have HPR : Hid (pr rows m = (rw_ rows m).2.2) := Lib.hid rfl
                          unfold pr at hlm
                          unfold rcell at a4
                          obtain ⟨⟨Ap, cp, L⟩, hrk⟩ : ∃ q, rw_ rows m = q := ⟨_, rfl⟩
                          rw [hrk] at a4 hrm hlm HPR
                          dsimp only at a4 hrm hlm HPR
                          have HQ2 : Hid (∀ n, Calls Try.prog 28 #[.slice Ap L.length cp, .int .i64 x] (wr.drewN n) fun e w' => e = .returned (.bool (mem L x)) ∧ wr.drewN n = w') := Lib.hid (fun n => by rw [hw7]; exact ref_In _ _ _ _ _ ((hrm.drewN q7).drewN n) (by omega))
                          have HREL : Hid (∀ n, wr.drewN n = w.drewN (q7 + n)) := Lib.hid (fun n => by rw [hw7, World.drewN_drewN])
                          obtain ⟨q2, hq2⟩ : ∃ q, mem L x = q := ⟨_, rfl⟩
                          rw [hq2] at HQ2
                          have HQE := Lib.hid hq2
                          clear hcp hrm hrk hm hq2 hw7
                          cases q2
                          · have HN : Hid (∀ t, r < t → t < k + 1 → x ∉ pr rows (kAt K t).1.toNat) := Lib.hid (fun t h1 h2 => by
                              by_cases e : t = k
                              · subst e; rw [HMK.out, HPR.out]; exact memF.1 HQE.out
                              · exact HKC.out t h1 (by omega))
                            go_wp2_with fail
                            go_quiet ((go_at_call 28; exact quiet_left (HQ2.out _)))
                            go_wp2
                            go_roundw
                            case rel => exact ⟨k + 1, _, by omega, by omega, by go_num, HN, HREL.out _⟩
                            case measure => simp [intOf]; omega
                          · have HN : Hid (¬ QR rows o K) := Lib.hid (fun h => by
                              have h1 := (h.2.2.2 r (by rw [HKL.out]; exact hrl) x HXM.out).2 k (by omega) (by rw [HKL.out]; exact hkl)
                              rw [HMK.out, HPR.out] at h1
                              exact h1 (memT.1 HQE.out))
                            go_wp2_with fail
                            go_quiet ((go_at_call 28; exact quiet_left (HQ2.out _)))
                            go_wp2
                            go_ret
                            exact ⟨false, rfl, ⟨(fun e => by cases e), (fun h => absurd h HN.out)⟩, by rw [HREL.out]; exact below_drewN (Below.refl _ _) _⟩
                        · obtain rfl : k = T.length := by omega
                          have d1 : ¬ (T.length : Int) < (T.length : Int) := by omega
                          have HN : Hid (∀ t, t < j + 1 → okOut rows o K r (li O t)) := Lib.hid (fun t ht => by
                            by_cases e : t = j
                            · subst e; rw [HXE.out]; exact ⟨memT.1 HQO.out, fun k h1 h2 => HKC.out k h1 (by rw [← HKL.out]; exact h2)⟩
                            · exact HJC.out t (by omega))
                          clear hw7
                          go_wp2
                          go_roundw
                          case rel => exact ⟨j + 1, q7, by omega, by go_num, HN, HW7.out⟩
                          case measure => simp [intOf]; omega
                  · obtain rfl : j = O.length := by omega
                    have g1' : ¬ (O.length : Int) < (O.length : Int) := by omega
                    have HN : Hid (∀ s, s < r + 1 → ∀ v ∈ (kAt K s).2, okOut rows o K s v) := Lib.hid (fun s hs v hv => by
                      by_cases e : s = r
                      · subst e
                        rw [HKO.out] at hv
                        obtain ⟨t, ht, e⟩ := List.getElem_of_mem hv
                        have := HJC.out t ht
                        rw [li_get ht, e] at this
                        exact this
                      · exact HRC.out s (by omega) v hv)
                    clear hw6
                    go_wp2
                    go_roundw
                    case rel => exact ⟨r + 1, q6, by omega, by go_num, HN, HW6.out⟩
                    case measure => simp [intOf]; omega
              · obtain rfl : r = T.length := by omega
                have f1 : ¬ (T.length : Int) < (T.length : Int) := by omega
                have HY : Hid (QR rows o K) := Lib.hid ⟨by rw [HKL.out, HLR.out], HPC.out, HOC.out, fun i hi v hv => HRC.out i (by rw [← HKL.out]; exact hi) v hv⟩
                clear hw5
                go_wp2
                go_ret
                exact ⟨true, rfl, ⟨(fun _ => HY.out), (fun _ => rfl)⟩, by rw [HW5.out]; exact below_drewN (Below.refl _ _) _⟩
  · have hne : ((T.length : Int) != (rows.length : Int)) = true := by simp; omega
    have HN : Hid (¬ QR rows o K) := Lib.hid (fun h => hlr (by rw [← HKL.out]; exact h.1))
    clear hlr
    go_enter Try.func13, Try.ntmps13
    go_wp2
    go_ret
    exact ⟨false, rfl, ⟨(fun e => by cases e), (fun h => absurd h HN.out)⟩, Below.refl _ _⟩
end Go.Proofs.Ytjohdkcgodaeiaa
