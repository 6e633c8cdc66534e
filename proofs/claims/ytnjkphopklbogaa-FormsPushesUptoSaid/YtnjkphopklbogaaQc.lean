/- The walk of parts of the specification; layer 32 (forms). -/
import Derived.Test.YtnjkphopklbogaaQb
import Derived.Deep.DeepCutAuto
namespace Go.Proofs.Ytnjkphopklbogaa
open Go.RowKit

theorem anL_swap {p : Fx} {l : List Fx} {k : Nat} (h : k < l.length) : anL p (l.drop k) = (eqF (fkd l k) p || anL p (l.drop (k + 1))) := by rw [anL_step h, eqF_symm]
theorem fszL_lenF : ∀ l : List Fx, l.length ≤ fszL l
  | [] => Nat.le_refl _
  | t :: r => by
    have h := fszL_lenF r
    have h2 := fsz_pos t
    have hz : fszL (t :: r) = t.sz + fszL r := rfl
    rw [List.length_cons]
    omega
theorem parK_len2 (t : Fx) (l : List Fx) (k : Nat) : (parK t l k).length ≤ l.length + 1 + fszL (t.ks.take k) := by
  have h := fold_len (t.ks.take k) (addF l t)
  have h2 := addF_len l t
  unfold parK
  omega
theorem fszL_take1 : ∀ (l : List Fx) (k : Nat), k < l.length → fszL (l.take k) + (fkd l k).sz ≤ fszL l
  | t :: r, 0, _ => by
    have h1 : fszL ((t :: r).take 0) = 0 := rfl
    have h2 : fszL (t :: r) = t.sz + fszL r := rfl
    have h3 : fkd (t :: r) 0 = t := rfl
    rw [h1, h2, h3]; omega
  | t :: r, k + 1, h => by
    have h0 := fszL_take1 r k (by simpa using h)
    have h1 : fszL ((t :: r).take (k + 1)) = t.sz + fszL (r.take k) := rfl
    have h2 : fszL (t :: r) = t.sz + fszL r := rfl
    have h3 : fkd (t :: r) (k + 1) = fkd r k := rfl
    rw [h1, h2, h3]; omega
theorem prs_app {B K : Nat} {t : Fx} {E : Option Addr} {dd : Nat} {A : Option Addr} {c : Nat} {v v8 : Value} {w wr w8 : World} {l : List Fx} {ea ka : Nat → Option Addr} {ec kc : Nat → Nat} (hBK : B ≤ K) (hKw : K ≤ w.heap.size) (hv : ∀ k, v.ownBlock = some k → k < w.heap.size) (hf : Frm (fun k => v.ownBlock = some k) w wr) (hz : w.heap.size + 1 ≤ wr.heap.size)
    (hb : Blk wr w.heap.size 27 (fC t E dd A c)) (hR : Fm B wr t E A) (ho : wr.ownsRow K 27 6 v l.length (csF l ea ka ec kc)) (hk : ∀ i, i < l.length → FmS (fun x => (Zr B K x ∧ x < wr.heap.size) ∧ v.ownBlock ≠ some x) wr (fkd l i) (ea i) (ka i))
    (hg : (wr.alloc (.cells (fC t E dd A c) 27)).grownBy w8 v.ownBlock) (ho8 : w8.ownsRow K 27 6 v8 (l.length + 1) (csF l ea ka ec kc ++ (fC t E dd A c).toList)) (hat : ∀ k, v8.ownBlock = some k → v.ownBlock = some k ∨ k = (wr.alloc (.cells (fC t E dd A c) 27)).heap.size) : PrS B K t E dd A c v w v8 (l ++ [t]) w8 := by
  obtain ⟨W, hW⟩ : ∃ W, wr.alloc (.cells (fC t E dd A c) 27) = W := ⟨_, rfl⟩
  have h1W : Below wr.heap.size wr W := by rw [← hW]; exact bal _ _
  rw [hW] at hg hat
  have hWs := h1W.size
  have hgs := hg.size
  have hown : ∀ k, v.ownBlock = some k → K ≤ k ∧ k < wr.heap.size := fun k hk => ho.lt k hk
  have hpush := RowG.push (Z := Zr B K) (P := (· < B)) (w := wr) (W := W) (K := K) (ts := l) rfl hk h1W ((hR.toS).kept (fun x hx => h1W.block x (by omega))) (fun x hx => ⟨⟨.inl hx, by omega⟩, fun e => by have := hown x e; omega⟩) hg ho8 hat
  refine ⟨⟨(hg.os.trans h1W.os).trans hf.os, (hg.tape.trans h1W.tape).trans hf.tape, (hg.output.trans h1W.output).trans hf.output, by omega, fun k hk hn => ?_⟩, by omega, ?_, by rw [List.length_append]; exact hpush, fun k hk => ?_⟩
  · exact ((hg.block k (by omega) (fun e => hn e.symm)).trans (h1W.block k (by omega))).trans (hf.block k hk hn)
  · exact (hg.block _ (by omega) (fun e => by have := hv _ e.symm; omega)).trans (hb.below h1W hb.lt)
  · rcases hat k hk with q | q
    · exact .inl q
    · exact .inr (by omega)
set_option maxRecDepth 100000 in
set_option maxHeartbeats 16000000 in
theorem rf_parts : ∀ (N : Nat) (t : Fx), t.sz ≤ N → N ≤ 10000000 → ∀ (B K : Nat) (E A : Option Addr) (dd c : Nat) (l : List Fx) (Av : Option Addr) (cv : Nat) (w : World), B ≤ K → K ≤ w.heap.size → Fm B w t E A → RowG (Zr B K) w K (.slice Av l.length cv) l.length l → (∀ u, u ∈ l → u.sz ≤ 10000000) → l.length + t.sz ≤ 10000000 →
    Calls Try.prog 52 #[fV t E dd A c, .slice Av l.length cv] w (PtR B K (partL t l) (.slice Av l.length cv) w) := by
  intro N
  induction N with
  | zero => intro t h; have := fsz_pos t; omega
  | succ N ih =>
    intro t ht hN B K E A dd c l Av cv w hBK hK hR hrow hls hln
    obtain ⟨W0, hW0⟩ : ∃ W, w.alloc (.cells (fC t E dd A c) 27) = W := ⟨_, rfl⟩
    have hb0 : Below w.heap.size w W0 := by rw [← hW0]; exact bal _ _
    have hz0 : W0.heap.size = w.heap.size + 1 := by rw [← hW0]; simp
    have hk0 : Blk W0 w.heap.size 27 (fC t E dd A c) := by rw [← hW0]; exact Blk.new _ _ _
    have hR0 : Fm B W0 t E A := hR.under (hb0.mono (by omega))
    have hrow0 := hrow.below hb0
    have hown : ∀ k, (Value.slice Av l.length cv).ownBlock = some k → k < w.heap.size := fun k hk => (hrow.own_lt hk).2
    have hsz := fsz_eq t
    have hse := sz_pos t.e
    have HW0 := Lib.hid hW0
    have HB0 := Lib.hid hb0
    have HZ0 := Lib.hid hz0
    have HK0 := Lib.hid hk0
    have HR0 := Lib.hid hR0
    have HROW := Lib.hid hrow0
    have HOWN := Lib.hid hown
    have HLS := Lib.hid hls
    have HLN := Lib.hid hln
    have HRA := Lib.hid hR
    have HIH := Lib.hid ih
    have HBK := Lib.hid hBK
    have HKW := Lib.hid hK
    have HNB : Hid (N ≤ 10000000) := Lib.hid (by omega)
    have hkl : t.ks.length ≤ 10000000 := by have := fszL_lenF t.ks; omega
    have HTS : Hid (t.sz ≤ 10000000) := Lib.hid (by omega)
    have hln2 : l.length ≤ 10000000 := by omega
    obtain ⟨R, hRR⟩ : ∃ R, anL t l = R := ⟨_, rfl⟩
    have HAN : Hid (anL t l = R) := Lib.hid hRR
    have HA0 : Hid ((false || anL t (l.drop 0)) = R) := Lib.hid hRR
    have HIHK : Hid (∀ i, i < t.ks.length → (fkd t.ks i).sz ≤ N ∧ (fkd t.ks i).sz ≤ fszL t.ks) := Lib.hid (fun i hi => by have h := fszL_mem (fkd_mem hi); omega)
    have HFS : Hid (fszL t.ks + t.e.sz = t.sz) := Lib.hid (by omega)
    clear ih ht hR hrow hrow0 hown hls hln hb0 hz0 hk0 hR0 hsz hse hRR hW0 hBK hK hN
    obtain ⟨n, hn⟩ : ∃ n, l.length = n := ⟨_, rfl⟩
    have HNN : Hid (n = l.length) := Lib.hid hn.symm
    rw [hn] at hln2
    rw [hn]
    clear hn
    obtain ⟨G, hG⟩ : ∃ G, w.heap.size = G := ⟨_, rfl⟩
    have HKG0 : Hid (Blk W0 G 27 (fC t E dd A c)) := Lib.hid (by rw [← hG]; exact HK0.out)
    have HG := Lib.hid hG
    clear hG
    go_enter Try.func52, Try.ntmps52
    go_upto_region 1 with (fail)
    rw [HW0.out, HG.out]
    go_wp2
    go_loopw [5, 6] (fun v i wr => ∃ (k : Nat) (q : Bool), k ≤ n ∧ v = .bool q ∧ i = .int .i64 (k : Int) ∧ Hid ((q || anL t (l.drop k)) = R) ∧ Hid (Below W0.heap.size W0 wr)) (fun v i _ => n - (intOf i).toNat)
    case atStart => exact ⟨0, false, Nat.zero_le _, rfl, rfl, HA0, Lib.hid (Below.refl _ _)⟩
    case round =>
      obtain ⟨k, q, hk, rfl, rfl, HV, HW⟩ := hrel
      have hk0 : (0 : Int) ≤ (k : Int) := by omega
      by_cases hlt : k < n
      · have l1 : (k : Int) < (n : Int) := by omega
        cases q
        · have hrw := HROW.out.below HW.out
          rw [← HNN.out] at hrw
          obtain ⟨b, ea, ec, ka, kc, rfl, hbK, hbl, hat, hfm⟩ := hrw.at hlt
          have hkl : k < l.length := by rw [← HNN.out]; exact hlt
          have hst := anL_swap (p := t) hkl
          have HC : Hid (∀ wx, Below wr.heap.size wr wx → Calls Try.prog 20 #[fV (fkd l k) ea ec ka kc, fV t E dd A c] wx (ValP wx (eqF (fkd l k) t))) := Lib.hid (fun wx hx => rf_fSame (fkd l k).sz (fkd l k) (Nat.le_refl _) (by have := HLS.out _ (fkd_mem hkl); omega) t (by have := HTS.out; omega) ea ec ka kc E dd A c wx ((hfm.toR (fun x hx => hx.1.2)).step hx) (((HR0.out.under (HW.out.mono (by have := HZ0.out; have := HBK.out; have := HKW.out; omega))).more (by have := HW.out.size; have := HZ0.out; have := HBK.out; have := HKW.out; omega)).step hx))
          have HS : Hid (∀ wx, Below wr.heap.size wr wx → C6 wx b (0 + k * 6) (fkd l k) ea ec ka kc ∧ C6 wx G 0 t E dd A c) := Lib.hid (fun wx hx => by
            have h1 := hat.turn (w' := wx) (fun o => World.cell?_of_block (a := ⟨b, o, none⟩) (hx.block b hbl))
            have h2 := (HKG0.out.below HW.out HKG0.out.lt).below hx (by have := HW.out.size; have := HKG0.out.lt; omega)
            exact ⟨⟨h1.c0, h1.c1, h1.c2, h1.c3, h1.c4, h1.c5⟩, ⟨h2.cell 0, h2.cell 1, h2.cell 2, h2.cell 3, h2.cell 4, h2.cell 5⟩⟩)
          have HV2 := HV
          obtain ⟨z, hz⟩ : ∃ z, eqF (fkd l k) t = z := ⟨_, rfl⟩
          rw [hz] at HC hst
          have X : Hid ((z || anL t (l.drop (k + 1))) = R) := Lib.hid (by have h := HV.out; rw [hst] at h; simpa using h)
          have HDR : Hid (Below wr.heap.size wr wr.drew) := Lib.hid ((Below.refl _ _).drew)
          generalize fkd l k = x1 at *
          rw [Nat.zero_add] at HS
          clear hz hst hat hfm hrw hbK hkl
          go_upto_region 5 with (fail)
          go_region_held3 (fun wx => C6 wx b (k * 6) x1 ea ec ka kc ∧ C6 wx G 0 t E dd A c) (first
            | with_reducible exact HS.out _ HB2.out
            | with_reducible exact HS.out _ HDR.out
            | with_reducible exact HS.out _ (Below.refl _ _)
            | exact HS.out _ HDR.out
            | exact HS.out _ (Below.refl _ _)) ((go_at_call 20; (with_reducible refine (HC.out _ HDR.out).mono ?_); rintro e w2 ⟨rfl, hb2⟩; have HB2 := Lib.hid (bt HDR.out hb2); clear hb2))
          go_wp2
          go_roundw
          case rel => exact ⟨k + 1, z, by omega, rfl, by go_num, X, Lib.hid (bt HW.out HB2.out)⟩
          case measure => simp [intOf]; try omega
        · have X : Hid ((true || anL t (l.drop (k + 1))) = R) := Lib.hid (by have h := HV.out; simpa using h)
          go_upto_region 5 with (fail)
          go_quiet ((fail))
          go_wp2
          exact ⟨⟨k + 1, true, by omega, rfl, by go_num, X, Lib.hid (bt HW.out (below_drewN (Below.refl _ _) _))⟩, by simp [intOf] <;> omega⟩
      · have l1 : ¬ (k : Int) < (n : Int) := by omega
        have X : Hid (q = R) := Lib.hid (by
          have h := HV.out
          rw [List.drop_of_length_le (by rw [← HNN.out]; omega)] at h
          simpa [anL] using h)
        have HLK : Hid (Below W0.heap.size W0 wr) := HW
        clear HV HA0
        have hze := HZ0.out
        have hws := HW.out.size
        have hk2 := HKG0.out.below HW.out HKG0.out.lt
        have HFR : Hid (Frm (fun k => (Value.slice Av n cv).ownBlock = some k) w wr) := Lib.hid (Frm.of_below (bt HB0.out HW.out))
        have HSTART : Hid (R = true → PrS B K t E dd A c (.slice Av n cv) w (.slice Av n cv) (parK t l 0) wr) := Lib.hid (fun hR => by
          have hp : parK t l 0 = l := by show addF l t = l; unfold addF; rw [HAN.out, hR]; rfl
          have hrw := HROW.out.below HW.out
          rw [hp]
          refine ⟨HFR.out, by omega, by rw [HG.out]; exact hk2, by rw [HNN.out]; exact hrw, fun k h => .inl h⟩)
        have HADD : Hid (R = false → parK t l 0 = l ++ [t]) := Lib.hid (fun hR => by show addF l t = _; unfold addF; rw [HAN.out, hR]; rfl)
        have HROW1 : Hid (RowG (Zr B K) wr K (.slice Av n cv) n l) := Lib.hid (by have h := HROW.out.below HW.out; rw [HNN.out]; exact h)
        have HOWN2 : Hid (∀ k, (Value.slice Av n cv).ownBlock = some k → k < w.heap.size) := Lib.hid (by rw [HNN.out]; exact HOWN.out)
        have HRW : Hid (Fm B wr t E A) := Lib.hid (HR0.out.under (HW.out.mono (by have := HBK.out; have := HKW.out; omega)))
        have HK2 := Lib.hid hk2
        have HWS : Hid (G + 1 ≤ wr.heap.size) := Lib.hid (by have := HG.out; omega)
        have HKG : Hid (K ≤ G ∧ B ≤ K) := Lib.hid ⟨by have := HKW.out; have := HG.out; omega, HBK.out⟩
        have t0 := hk2.cell 0
        have t1 := hk2.cell 1
        have t2 := hk2.cell 2
        have t3 := hk2.cell 3
        have t4 := hk2.cell 4
        have t5 := hk2.cell 5
        clear hk2 hze hws
        obtain ⟨hl9, ea9, ka9, ec9, kc9, ho9, hk9⟩ := HROW1.out
        obtain ⟨cs, hcs⟩ : ∃ cs, csF l ea9 ka9 ec9 kc9 = cs := ⟨_, rfl⟩
        have HOW : Hid (wr.ownsRow K 27 6 (.slice Av n cv) n cs) := Lib.hid (by rw [← hcs]; exact ho9)
        have HLE : Hid (K ≤ wr.heap.size) := Lib.hid (by have := HKG.out; have := HWS.out; omega)
        have HAPP : Hid (∀ A8 c8 w8, w8.ownsRow K 27 6 (.slice A8 (n + 1) c8) (n + 1) (cs ++ (fC t E dd A c).toList) → (wr.alloc (.cells (fC t E dd A c) 27)).grownBy w8 (Value.slice Av n cv).ownBlock → (∀ k, (Value.slice A8 (n + 1) c8).ownBlock = some k → (Value.slice Av n cv).ownBlock = some k ∨ k = (wr.alloc (.cells (fC t E dd A c) 27)).heap.size) → PrS B K t E dd A c (.slice Av n cv) w (.slice A8 (n + 1) c8) (l ++ [t]) w8) := Lib.hid (fun A8 c8 w8 h8 hg hat => by
          rw [← hcs] at h8
          rw [← hl9] at h8 hg hat ho9 hk9 ⊢
          have hfr := HFR.out
          have hw2 := HOWN2.out
          rw [← hl9] at hfr hw2
          exact prs_app HKG.out.2 (by have := HKG.out; have := HG.out; omega) hw2 hfr (by have := HWS.out; have := HG.out; omega) (by rw [HG.out]; exact HK2.out) HRW.out ho9 hk9 hg h8 hat)
        clear ho9 hk9 hcs hl9
        go_upto_if 24 with (fail)
        go_cut [1] (fun v wx => ∃ (A3 : Option Addr) (m3 c3 : Nat), v = .slice A3 m3 c3 ∧ Hid (m3 = (parK t l 0).length) ∧ Hid (PrS B K t E dd A c (.slice Av n cv) w (.slice A3 m3 c3) (parK t l 0) wx))
        case first =>
          have hq := X.out
          subst hq
          cases q
          · have hp := HADD.out rfl
            have HP0 := Lib.hid hp
            have HLL : Hid (n + 1 = (l ++ [t]).length) := Lib.hid (by rw [List.length_append, ← HNN.out]; rfl)
            clear hp
            go_wp2_with (at_builtin; refine wpList_app_fx rfl (.tmp 25) (.tmp 27) rfl wr K n (.slice Av n cv) cs rfl HOW.out t E A dd c rfl HLE.out (by omega) ?_; intro A8 c8 w8 hO8 hg8 ha8; have I8 := Lib.hid (HAPP.out A8 c8 w8 hO8 hg8 ha8); clear hO8 hg8 ha8)
            go_meet
            exact ⟨A8, n + 1, c8, rfl, by rw [HP0.out]; exact HLL, by rw [HP0.out]; exact I8⟩
          · have hp : parK t l 0 = l := by show addF l t = l; unfold addF; rw [HAN.out]; rfl
            have HST := Lib.hid (HSTART.out rfl)
            have HLL : Hid (n = (parK t l 0).length) := Lib.hid (by rw [hp]; exact HNN.out)
            clear hp
            go_wp2
            go_meet
            exact ⟨Av, n, cv, rfl, HLL, HST⟩
        case rest =>
        obtain ⟨A3, m3, c3, rfl, HM3, HP3⟩ := hcut
        clear t0 t1 t2 t3 t4 t5 HK2 HRW HAPP HOW HSTART HADD HROW1 HFR HWS HLE X l1
        go_wp2
        go_loopw [1, 7] (fun v i wr => ∃ (j : Nat) (A3 : Option Addr) (m3 c3 : Nat), j ≤ t.ks.length ∧ v = .slice A3 m3 c3 ∧ i = .int .i64 (j : Int) ∧ Hid (m3 = (parK t l j).length) ∧ Hid (PrS B K t E dd A c (.slice Av n cv) w (.slice A3 m3 c3) (parK t l j) wr)) (fun v i _ => t.ks.length - (intOf i).toNat)
        case atStart => exact ⟨0, A3, m3, c3, Nat.zero_le _, rfl, rfl, HM3, HP3⟩
        case round =>
          obtain ⟨j, A3, m3, c3, hj, rfl, rfl, HM3, HP3⟩ := hrel
          have hbx := HP3.out.bx
          rw [HG.out] at hbx
          have x5 : wr.cell? ⟨G, 5, none⟩ = some (.slice A t.ks.length c) := hbx.cell 5
          clear hbx
          by_cases hjl : j < t.ks.length
          · have j1 : (j : Int) < (t.ks.length : Int) := by omega
            have j0 : (0 : Int) ≤ (j : Int) := by omega
            have hfb : Below B w wr := HP3.out.fr.below2 (fun k hk e => by
              have h1 := HKG.out
              have h2 := HROW.out
              rw [← HNN.out] at h2
              have := (h2.own_lt e).1
              omega) (by have := HKG.out; have := HG.out; omega)
            obtain ⟨b, f, rfl, hb, hc⟩ := (HRA.out.under hfb).2.out (by omega)
            obtain ⟨ea, ec, ka, kc, hat, r0, r1⟩ := hc j hjl
            obtain ⟨hk1, hk2⟩ := HIHK.out j hjl
            have hpr := HP3.out.row
            have hlen : (parK t l j).length + (fkd t.ks j).sz ≤ 10000000 := by
              have h1 := parK_len2 t l j
              have h2 := fszL_take1 t.ks j hjl
              have h3 := HLN.out
              have h4 := HFS.out
              have h5 := sz_pos t.e
              omega
            have hms : ∀ u, u ∈ parK t l j → u.sz ≤ 10000000 := fun u hu => by
              rcases parK_mem hu with q | q
              · exact HLS.out u q
              · have := HTS.out; omega
            have HC : Hid (Calls Try.prog 52 #[fV (fkd t.ks j) ea ec ka kc, .slice A3 m3 c3] wr (PtR B K (partL (fkd t.ks j) (parK t l j)) (.slice A3 m3 c3) wr)) := Lib.hid (by
              have hm := HM3.out
              rw [hm] at hpr ⊢
              exact HIH.out (fkd t.ks j) hk1 HNB.out B K ea ka ec kc (parK t l j) A3 c3 wr HKG.out.2 (by have := HKG.out; have := HP3.out.ze; have := HG.out; omega) ⟨r0, r1⟩ hpr hms hlen)
            obtain ⟨l2, hl2⟩ : ∃ l2, partL (fkd t.ks j) (parK t l j) = l2 := ⟨_, rfl⟩
            have HL2 : Hid (parK t l (j + 1) = l2) := Lib.hid ((parK_step hjl).trans hl2)
            rw [hl2] at HC
            obtain ⟨d0, d1, d2, d3, d4, d5⟩ := hat
            generalize fkd t.ks j = x1 at *
            clear hl2 hms hlen hpr hk1 hk2 r0 r1 hc hb hfb
            go_wp2_with (go_at_call 52; (with_reducible refine HC.out.mono ?_); rintro e w2 hpp; obtain ⟨A5, c5, rfl, hr5, hf5, ho5⟩ := hpp; have HN5 := Lib.hid (HP3.out.step HOWN2.out hr5 hf5 ho5); clear hr5 hf5 ho5)
            go_roundw
            case rel => exact ⟨j + 1, A5, l2.length, c5, by omega, rfl, by go_num, by rw [HL2.out]; exact Lib.hid rfl, by rw [HL2.out]; exact HN5⟩
            case measure => simp [intOf]; try omega
          · have j1 : ¬ (j : Int) < (t.ks.length : Int) := by omega
            obtain rfl : j = t.ks.length := by omega
            go_wp2
            go_ret
            have hend : parK t l t.ks.length = partL t l := by unfold parK; rw [List.take_length, partL_eq]
            have hr := HP3.out.row
            have hm := HM3.out
            have hfr := HP3.out.fr
            have how := HP3.out.ow
            rw [hend] at hr hm
            rw [hm] at hr how ⊢
            exact ⟨A3, c3, rfl, hr, hfr, fun k hk => by
              rcases how k hk with q | q
              · exact .inl q
              · exact .inr (by omega)⟩
end Go.Proofs.Ytnjkphopklbogaa
