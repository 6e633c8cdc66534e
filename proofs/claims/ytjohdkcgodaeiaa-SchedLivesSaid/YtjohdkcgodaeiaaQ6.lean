/- The specification's live, Live and Widest; layer 42 (sched). -/
import Derived.Test.YtjohdkcgodaeiaaQ5
namespace Go.Proofs.Ytjohdkcgodaeiaa
open Go.RowKit

theorem live_filter (rows : List Rw) (K : List (Int × List Int)) (m : Nat) : liveL rows K m = (setL (partsU rows K m)).filter fun v => !mem (outsU K m) v := by
  unfold liveL
  rw [set_filter]
theorem mem_app {a b : List Int} {v : Int} : mem (a ++ b) v = (mem a v || mem b v) := by
  unfold mem
  rw [← Bool.decide_or]
  exact decide_eq_decide.2 List.mem_append
theorem partsU_len {rows : List Rw} {K : List (Int × List Int)} (h : ∀ p, (vrs rows p).length ≤ 1000) (m : Nat) (hm : m ≤ K.length) : (partsU rows K m).length ≤ 1000 * m := by
  induction m with
  | zero => simp [partsU]
  | succ m ih =>
    rw [partsU_succ (by omega), List.length_append]
    have := ih (by omega)
    have := h (kAt K m).1
    omega
set_option maxRecDepth 100000 in
set_option maxHeartbeats 16000000 in
theorem r_live (A AL : Option Addr) (ca cl : Nat) (rows : List Rw) (T : List St) (m : Nat) (w : World) (hP : RR w w.heap.size A rows) (hT : StP w AL T) (hm : m ≤ T.length)
    (hr : rows.length ≤ 1000) (hl : T.length ≤ 1000) (hlp : ∀ j, j < rows.length → (pr rows j).length ≤ 1000) (hlo : ∀ k, k < T.length → (stAt T k).2.2.2.length ≤ 1000) :
    Calls Try.prog 34 #[.slice A rows.length ca, .slice AL T.length cl, .int .i64 (m : Int)] w (OwnR w (liveL rows (T.map stK) m)) := by
  obtain ⟨i0, hi0, hz0, hz1, hz2⟩ := info_parts info3
  have HP := Lib.hid hP
  have HT := Lib.hid hT
  have HLO := Lib.hid hlo
  have HVR : Hid (∀ p, (vrs rows p).length ≤ 1000) := Lib.hid (fun p => by
    unfold vrs
    split
    · exact Nat.le_trans (set_le _) (hlp _ (by omega))
    · simp)
  have HLP : Hid (∀ j, j < rows.length → (pr rows j).length ≤ 1000000) := Lib.hid (fun j hj => by have := hlp j hj; omega)
  rw [live_filter]
  obtain ⟨K, hK⟩ : ∃ K, T.map stK = K := ⟨_, rfl⟩
  have HK1 : Hid (∀ k, (kAt K k).1 = (stAt T k).1) := Lib.hid (fun k => by rw [← hK, kAt_fst])
  have HK2 : Hid (∀ k, (kAt K k).2 = (stAt T k).2.2.2) := Lib.hid (fun k => by rw [← hK, kAt_snd])
  have HKL : Hid (K.length = T.length) := Lib.hid (by rw [← hK, List.length_map])
  rw [hK]
  have HPU : Hid (∀ k, k ≤ m → (partsU rows K k).length ≤ 1000000) := Lib.hid (fun k hk => by have := partsU_len HVR.out k (K := K) (by rw [HKL.out]; omega); omega)
  have HPS : Hid (∀ k, k < m → partsU rows K (k + 1) = partsU rows K k ++ vrs rows (kAt K k).1) := Lib.hid (fun k hk => partsU_succ (by rw [HKL.out]; omega))
  have HOS : Hid (∀ k, k < m → ∀ v, mem (outsU K (k + 1)) v = (mem (outsU K k) v || mem (kAt K k).2 v)) := Lib.hid (fun k hk v => by rw [outsU_succ (by rw [HKL.out]; omega), mem_app])
  have HO0 : Hid (∀ v, mem (outsU K 0) v = false) := Lib.hid (fun v => by unfold outsU mem; simp)
  obtain ⟨F, hF⟩ : ∃ F, (fun v => !mem (outsU K m) v) = F := ⟨_, rfl⟩
  have HFV : Hid (∀ v, F v = !mem (outsU K m) v) := Lib.hid (fun v => by rw [← hF])
  rw [hF]
  clear hP hT hlp hlo hK hF
  go_enter Try.func34, Try.ntmps34
  go_wp2
  go_loopw [7, 8] (fun v i wr => ∃ k : Nat, k ≤ m ∧ i = .int .i64 (k : Int) ∧ Hid (Own wr w.heap.size v (partsU rows K k)) ∧ Below w.heap.size w wr) (fun _ i _ => m - (intOf i).toNat)
  case atStart => exact ⟨0, Nat.zero_le _, rfl, Lib.hid (by unfold partsU; exact World.ownsRow_nil _ _ _ _), Below.refl _ _⟩
  case round =>
    obtain ⟨k, hk, rfl, HO, hb⟩ := hrel
    have hbs := hb.size
    by_cases hkm : k < m
    · have h1 : (k : Int) < (m : Int) := by omega
      have h0 : (0 : Int) ≤ (k : Int) := by omega
      have h2 : (k : Int) < (T.length : Int) := by omega
      obtain ⟨b, off, rfl, hbl, hc⟩ := (HT.out.1) (by omega)
      obtain ⟨c1, _⟩ := hc k (by omega)
      have e1 := (hb.cell (p := ⟨b, off + k * 2, none⟩) hbl).trans c1
      have hps := HPS.out k hkm
      rw [HK1.out] at hps
      obtain ⟨p, hp⟩ : ∃ p, (stAt T k).1 = p := ⟨_, rfl⟩
      rw [hp] at e1 hps
      have hpl := HPU.out k (by omega)
      have hvl := HVR.out p
      have HPT := Lib.hid (r_part A ca rows p wr (HP.out.step hb) (by omega) HLP.out)
      obtain ⟨V, hV⟩ : ∃ V, vrs rows p = V := ⟨_, rfl⟩
      obtain ⟨U, hU⟩ : ∃ U, partsU rows K k = U := ⟨_, rfl⟩
      rw [hV] at HPT hps hvl
      rw [hU] at HO hps hpl
      have HNX := Lib.hid hps
      have HB := Lib.hid hb
      clear hc c1 hps hp hV hU hb
      go_wp2_with (first
        | (at_builtin; have _ := HR1; refine wpList_app_ints rfl _ _ rfl w.heap.size _ _ rfl HO1.out A1 c1 V rfl HR1.out HN1.out (Nat.le_trans hbs HB1.out.size) (by omega) ?_; intro v2 w2 hO2 hb2; have HO2 := Lib.hid hO2; have HB2 := Lib.hid ((HB.out.trans (HB1.out.mono hbs)).trans hb2); clear hO2 hb2)
        | (go_at_call 36; refine HPT.out.mono ?_; rintro e w1 ⟨v1, rfl, ho1, hb1⟩; obtain ⟨A1, c1, rfl, hr1, hn1⟩ := ho1.form; have HR1 := Lib.hid hr1; have HN1 := Lib.hid hn1; have HO1 := Lib.hid (HO.out.at (fun g _ hl => hb1.block g hl)); have HB1 := Lib.hid hb1; clear ho1 hb1 hr1 hn1))
      go_roundw
      case rel => exact ⟨k + 1, by omega, by go_num, by rw [HNX.out]; exact HO2, HB2.out⟩
      case measure => simp [intOf]; omega
    · obtain rfl : k = m := by omega
      have h1 : ¬ (k : Int) < (k : Int) := by omega
      obtain ⟨AU, cu, rfl, hru, _⟩ := HO.out.form
      have hpl := HPU.out k (Nat.le_refl _)
      have HSET := Lib.hid (ref_set AU cu _ wr hru (by omega))
      have hsl := set_le (partsU rows K k)
      obtain ⟨S, hS⟩ : ∃ S, setL (partsU rows K k) = S := ⟨_, rfl⟩
      have HSE := Lib.hid hS
      rw [hS] at HSET hsl
      have HB := Lib.hid hb
      have hSl : S.length ≤ 1000000 := by omega
      obtain ⟨ul, hul⟩ : ∃ n, (partsU rows K k).length = n := ⟨_, rfl⟩
      rw [hul] at HSET ⊢
      clear hru hS hb hsl hpl hul HO
      generalize wr = wo at *
      go_upto_region 9 with (go_at_call 25; refine HSET.out.mono ?_; rintro e w6 ⟨v6, rfl, ho6, hb6⟩; obtain ⟨AS, cs, rfl, hr6, _⟩ := ho6.form; have HR6 := Lib.hid hr6; have HB6 := Lib.hid hb6; clear ho6 hr6 hb6)
      have HBW6 := Lib.hid (HB.out.trans (HB6.out.mono hbs))
      have hbs6 := HBW6.out.size
      go_loopw [9, 10] (fun v i wr => ∃ j : Nat, j ≤ S.length ∧ i = .int .i64 (j : Int) ∧ Hid (Own wr w6.heap.size v ((S.take j).filter F)) ∧ Below w6.heap.size w6 wr) (fun _ i _ => S.length - (intOf i).toNat)
      case atStart => exact ⟨0, Nat.zero_le _, rfl, Lib.hid (World.ownsRow_nil _ _ _ _), Below.refl _ _⟩
      case round =>
        obtain ⟨j, hj, rfl, HOJ, hbj⟩ := hrel
        have hbjs := hbj.size
        by_cases hjl : j < S.length
        · have g1 : (j : Int) < (S.length : Int) := by omega
          have g0 : (0 : Int) ≤ (j : Int) := by omega
          obtain ⟨bs, os, rfl, hbs', hcs⟩ := HR6.out (by omega)
          have HCX : Hid (∀ w', Below w6.heap.size w6 w' → w'.cell? ⟨bs, os + j, none⟩ = some (.int .i64 (li S j))) := Lib.hid (fun w' hb' => (hb'.cell (p := ⟨bs, os + j, none⟩) hbs').trans (hcs j hjl))
          have hft := filter_take (p := F) hjl
          have hfl := List.length_filter_le F (S.take j)
          rw [List.length_take] at hfl
          obtain ⟨x, hx⟩ : ∃ x, li S j = x := ⟨_, rfl⟩
          rw [hx] at HCX hft
          obtain ⟨G, hG⟩ : ∃ G, (S.take j).filter F = G := ⟨_, rfl⟩
          obtain ⟨G2, hG2⟩ : ∃ G2, (S.take (j + 1)).filter F = G2 := ⟨_, rfl⟩
          rw [hG, hG2] at hft
          rw [hG] at HOJ hfl
          have HFT := Lib.hid hft
          have HG2 := Lib.hid hG2
          have HBJ := Lib.hid hbj
          have hGl : G.length ≤ 1000000 := by omega
          have HFX := Lib.hid (HFV.out x)
          generalize wr = wj at *
          clear hcs hft hx hG hG2 hbj hfl
          go_upto_region 13 with (fail)
          go_loopw [11, 12] (fun g i wr => ∃ t q : Nat, t ≤ k ∧ i = .int .i64 (t : Int) ∧ g = .bool (mem (outsU K t) x) ∧ wr = wj.drewN q) (fun _ i _ => k - (intOf i).toNat)
          case atStart => exact ⟨0, 0, Nat.zero_le _, rfl, by rw [HO0.out], rfl⟩
          case round =>
            obtain ⟨t, q, ht, rfl, rfl, hwr⟩ := hrel
            have HBR : Hid (Below w6.heap.size w6 wr) := Lib.hid (by rw [hwr]; exact below_drewN HBJ.out q)
            by_cases htk : t < k
            · have f1 : (t : Int) < (k : Int) := by omega
              have f0 : (0 : Int) ≤ (t : Int) := by omega
              have f2 : (t : Int) < (T.length : Int) := by omega
              have e3 := HCX.out wr HBR.out
              have HBB := HBW6.out.trans (HBR.out.mono hbs6)
              obtain ⟨b, off, rfl, hbl, hc⟩ := (HT.out.1) (by omega)
              obtain ⟨_, c2⟩ := hc t (by omega)
              have e2 := (HBB.cell (p := ⟨b, off + t * 2 + 1, none⟩) hbl).trans c2
              have hro := (HT.out.2 t (by omega)).step HBB
              have hol := HLO.out t (by omega)
              have hos := HOS.out t htk x
              rw [HK2.out] at hos
              unfold rcell at e2
              obtain ⟨⟨p, Ak, ck, O⟩, hst⟩ : ∃ r, stAt T t = r := ⟨_, rfl⟩
              rw [hst] at e2 hro hol hos
              dsimp only at e2 hro hol hos
              have HQ2 : Hid (∀ n, Calls Try.prog 28 #[.slice Ak O.length ck, .int .i64 x] (wr.drewN n) fun e w' => e = .returned (.bool (mem O x)) ∧ wr.drewN n = w') := Lib.hid (fun n => ref_In _ _ _ _ _ (hro.drewN n) (by omega))
              have HREL : Hid (∀ n, wr.drewN n = wj.drewN (q + n)) := Lib.hid (fun n => by rw [hwr, World.drewN_drewN])
              obtain ⟨ob, hob⟩ : ∃ q, mem (outsU K t) x = q := ⟨_, rfl⟩
              obtain ⟨on, hon⟩ : ∃ q, mem (outsU K (t + 1)) x = q := ⟨_, rfl⟩
              obtain ⟨q2, hq2⟩ : ∃ q, mem O x = q := ⟨_, rfl⟩
              rw [hob, hon, hq2] at hos
              rw [hob]
              rw [hq2] at HQ2
              have HON := Lib.hid hon
              have HS := Lib.hid hos
              have HWR := Lib.hid hwr
              clear hc c2 hst hro hos hob hon hq2 hwr HBB
              cases ob <;> cases q2
              all_goals
                go_wp2_with fail
                go_quiet ((go_at_call 28; exact quiet_left (HQ2.out _)))
                go_wp2
                go_roundw
                case rel => exact ⟨t + 1, _, by omega, by go_num, by rw [HON.out, HS.out]; rfl, HREL.out _⟩
                case measure => simp [intOf]; omega
            · obtain rfl : t = k := by omega
              have f1 : ¬ (t : Int) < (t : Int) := by omega
              obtain ⟨ob, hob⟩ : ∃ q, mem (outsU K t) x = q := ⟨_, rfl⟩
              rw [hob] at HFX ⊢
              have HOW : Hid (Own wr w6.heap.size u9 G) := Lib.hid (by rw [hwr]; exact HOJ.out.drewN q)
              have hws : w6.heap.size ≤ wr.heap.size := HBR.out.size
              have e3 := HCX.out wr HBR.out
              clear hob hwr
              cases ob
              · have HE : Hid (G2 = G ++ [x]) := Lib.hid (by rw [HFT.out, HFX.out]; rfl)
                go_wp2_with (at_builtin; refine wpList_append_own _ rfl _ _ 23 rfl w6.heap.size 3 i0 _ 1 8 Try.underlying23 hi0 hz0 hz1 hz2 rfl (by decide) _ _ _ rfl (World.ownsRow.alloc HOW.out _) ⟨wr.heap.size, 0, none⟩ 1 1 [.int .i64 x] rfl rfl (cell_one_new _ _ _) (by simp [Value.oneCell']) (max_ok (by omega)) (by omega) (by simp; omega) ?_; intro v5 w5 hO5 hg5 _; have q5 := Own.grow2 HOW.out HBR.out hws hg5; have HO5 : Hid (Own w5 w6.heap.size v5 (G ++ [x])) := Lib.hid (Own.push hO5); have HB5 := Lib.hid q5; clear hO5 hg5 q5)
                go_roundw
                case rel => exact ⟨j + 1, by omega, by go_num, by rw [HG2.out, HE.out]; exact HO5, HB5.out⟩
                case measure => simp [intOf]; omega
              · have HE : Hid (G2 = G) := Lib.hid (by rw [HFT.out, HFX.out]; simp)
                clear e3
                go_wp2
                go_roundw
                case rel => exact ⟨j + 1, by omega, by go_num, by rw [HG2.out, HE.out]; exact HOW, HBR.out⟩
                case measure => simp [intOf]; omega
        · obtain rfl : j = S.length := by omega
          have g1 : ¬ (S.length : Int) < (S.length : Int) := by omega
          have hoj := HOJ.out
          rw [List.take_length] at hoj
          have HO7 := Lib.hid hoj
          have HB7 := Lib.hid (HBW6.out.trans (hbj.mono hbs6))
          clear hoj hbj HOJ
          go_wp2
          go_ret
          exact ⟨u9, rfl, by rw [HSE.out]; exact HO7.out.less hbs6, HB7.out⟩
end Go.Proofs.Ytjohdkcgodaeiaa
