/- The contract of Nodes; layer 25 (ddaudit). -/
import Derived.Test.YtmpcfplpdbdmmaaFn6
namespace Go.Proofs.Ytmpcfplpdbdmmaa
open Go.RowKit Go.Maps

structure NS (order : List Int) (l : List Nd) (w : World) (B1 T bp bt bm bs k : Nat) (v : Value) (done : List Fd) (wr : World) : Prop where
  tb : Tb wr T (l.length + 2 * k) (idxF order) (topsF (idxF order) l) (metS (l.take k)) (shS (l.take k)) bp bt bm bs
  own : OwnF wr B1 31 v done
  bel : Below w.heap.size w wr
  sz : B1 ≤ wr.heap.size
  t1 : T < B1 ∧ bp < B1 ∧ bt < B1 ∧ bm < B1 ∧ bs < B1
  t2 : w.heap.size ≤ B1 ∧ w.heap.size ≤ bm ∧ w.heap.size ≤ bs
section
variable {order : List Int} {l : List Nd} {w : World} {B1 T bp bt bm bs k : Nat} {v : Value} {done : List Fd} {wr w2 : World}
theorem NS.below (h : NS order l w B1 T bp bt bm bs k v done wr) (hb : Below wr.heap.size wr w2) : NS order l w B1 T bp bt bm bs k v done w2 :=
  ⟨h.tb.below hb, h.own.below hb, h.bel.trans (hb.mono h.bel.size), Nat.le_trans h.sz hb.size, h.t1, h.t2⟩
theorem Tb.heap {w w' : World} {B1 T n : Nat} {pos tops : Int → Option Int} {met sh : Lit → Bool} {bp bt bm bs : Nat} (h : Tb w T n pos tops met sh bp bt bm bs) (hb : Below B1 w w') (ht : T < B1 ∧ bp < B1 ∧ bt < B1 ∧ bm < B1 ∧ bs < B1) : Tb w' T n pos tops met sh bp bt bm bs :=
  ⟨h.t.below hb ht.1, h.p.below hb ht.2.1, h.o.below hb ht.2.2.1, h.m.below hb ht.2.2.2.1, h.s.below hb ht.2.2.2.2, h.d⟩
theorem NS.app (h : NS order l w B1 T bp bt bm bs k v done wr) {v' : Value} {f : Fd} (ho : OwnF w2 B1 31 v' (done ++ [f])) (ha : App wr v B1 v' w2) : NS order l w B1 T bp bt bm bs k v' (done ++ [f]) w2 :=
  ⟨h.tb.heap ha.2.2 h.t1, ho, h.bel.trans (ha.2.2.mono h.t2.1), Nat.le_trans h.sz ha.2.2.size, h.t1, h.t2⟩
/-- The node under test lies apart. -/
def Ap (g : Nat) (x : Nd) (v : Value) (wr : World) : Prop := Blk wr g 39 (ndR x) ∧ v.ownBlock ≠ some g
theorem Ap.below {g x v} (h : Ap g x v wr) (hb : Below wr.heap.size wr w2) : Ap g x v w2 := ⟨h.1.below hb h.1.lt, h.2⟩
theorem Ap.app {g x v v'} (h : Ap g x v wr) (ha : App wr v B1 v' w2) : Ap g x v' w2 := by
  refine ⟨(ha.1 g h.1.lt h.2).trans h.1, fun e => ?_⟩
  rcases ha.2.1 with hh | hh
  · exact h.2 (hh ▸ e)
  · have := hh g e
    have := h.1.lt
    omega
end
theorem idx45 (j : Nat) (hj : j < 5) (w : World) : (Instr.index 45 (.agg #[.int .i64 4, .int .i64 3, .int .i64 5, .int .i64 1, .int .i64 2]) (.int .i64 (j : Int))).run Try.prog w = .ok (.int .i64 (kd j)) w := by
  rcases (by omega : j = 0 ∨ j = 1 ∨ j = 2 ∨ j = 3 ∨ j = 4) with rfl | rfl | rfl | rfl | rfl <;> kernel_rfl
theorem kd_in (j : Nat) (hj : j < 5) : kd j = 4 ∨ kd j = 3 ∨ kd j = 5 ∨ kd j = 1 ∨ kd j = 2 := by
  rcases (by omega : j = 0 ∨ j = 1 ∨ j = 2 ∨ j = 3 ∨ j = 4) with rfl | rfl | rfl | rfl | rfl <;> decide
def NodP (order : List Int) (l : List Nd) (et : TypeId) (w : World) (e : Ending) (w' : World) : Prop :=
  ∃ v, e = .returned v ∧ OwnF w' w.heap.size et v (allF order l l.length) ∧ Below w.heap.size w w'
theorem OwnF.mono {w : World} {B C et v l} (h : OwnF w B et v l) (hC : C ≤ B) : OwnF w C et v l := by
  obtain ⟨h1, h2⟩ := h
  refine ⟨h1, ?_⟩
  rcases h2 with h2 | ⟨g, cap, cur, hv, hg, rest⟩
  · exact .inl h2
  · exact .inr ⟨g, cap, cur, hv, by omega, rest⟩
set_option maxRecDepth 100000 in
set_option maxHeartbeats 4000000 in
theorem e_Nodes (order : List Int) (l : List Nd) (A : Option Addr) (ca : Nat) (C : Option Addr) (cc : Nat) (w : World) (hA : RowI w.heap.size w A order) (hC : RowN w.heap.size w C l) (hO : OkI order) (hN : OkN l) (hl1 : order.length ≤ 9223372036854775807) (hl2 : l.length ≤ 1000) :
    Calls Try.prog 7 #[.slice A order.length ca, .slice C l.length cc] w (NodP order l 31 w) := by
  have HTab := Lib.hid (e_newTable order l A ca C cc w hA hC hO hN hl1 hl2)
  have HC := Lib.hid hC
  have HN := Lib.hid hN
  have HL1 := Lib.hid hl1
  have HL2 := Lib.hid hl2
  clear hA hC hO hN hl1 hl2
  go_enter Try.func7, Try.ntmps7
  go_wp2_with (go_at_call 14; refine HTab.out.mono ?_; rintro e w1 ⟨T, bp, bt, bm, bs, rfl, q1, q2, q3, q4, q5⟩)
  have HS0 : Hid (NS order l w w1.heap.size T bp bt bm bs 0 (.slice none 0 0) [] w1) := Lib.hid ⟨by rw [List.take_zero, metS_nil, shS_nil]; exact q4, ⟨rfl, .inl ⟨rfl, rfl⟩⟩, q5, Nat.le_refl _, ⟨q4.t.lt, q4.p.lt, q4.o.lt, q4.m.lt, q4.s.lt⟩, q5.size, q2, q3⟩
  generalize w1.heap.size = B1 at *
  clear q1 q2 q3 q4 q5 HTab
  go_loopw [6, 16] (fun v i wr => ∃ k : Nat, k ≤ l.length ∧ i = .int .i64 (k : Int) ∧ Hid (NS order l w B1 T bp bt bm bs k v (allF order l k) wr)) (fun _ i _ => l.length - (intOf i).toNat)
  case atStart => exact ⟨0, Nat.zero_le _, rfl, HS0⟩
  case round =>
    obtain ⟨k, hk, rfl, HS⟩ := hrel
    clear HS0
    have hbd := HL2.out
    by_cases hlt : k < l.length
    · have l1 : (k : Int) < (l.length : Int) := by omega
      obtain ⟨b, f0, rfl, hbl, hc⟩ := HC.out (by omega)
      obtain ⟨a0, a1, a2, a3, a4⟩ := hc k hlt
      have hB := HS.out.bel
      have d0 := (hB.cell (p := ⟨b, f0 + k * 5, none⟩) hbl).trans a0
      have d1 := (hB.cell (p := ⟨b, f0 + k * 5 + 1, none⟩) hbl).trans a1
      have d2 := (hB.cell (p := ⟨b, f0 + k * 5 + 2, none⟩) hbl).trans a2
      have d3 := (hB.cell (p := ⟨b, f0 + k * 5 + 3, none⟩) hbl).trans a3
      have d4 := (hB.cell (p := ⟨b, f0 + k * 5 + 4, none⟩) hbl).trans a4
      have HX := Lib.hid (HN.out k hlt)
      have HTK := Lib.hid (na_take hlt)
      have HVK : Hid (∀ K, vioP (idxF order) (topsF (idxF order) l) (metS (l.take k)) (shS (l.take k)) K (na l k) = vioK order l k K) := Lib.hid (fun K => rfl)
      have HPF : Hid (∀ j p, vioK order l k (kd j) = p → partF order l k (j + 1) = partF order l k j ++ (if p = true then [⟨kd j, (na l k).id⟩] else [])) := Lib.hid (fun j p hp => by rw [← hp]; rfl)
      have HAF : Hid (allF order l (k + 1) = allF order l k ++ partF order l k 5) := Lib.hid rfl
      have HP0 : Hid (partF order l k 0 = []) := Lib.hid rfl
      have HLn : Hid (∀ j, j ≤ 5 → (allF order l k ++ partF order l k j).length ≤ 1000000) := Lib.hid (fun j hj => by
        have := allF_len order l k
        have := partF_len order l k j
        rw [List.length_append]; omega)
      clear hc a0 a1 a2 a3 a4
      generalize na l k = x at *
      generalize vioK order l k = V at *
      generalize partF order l k = part at *
      generalize allF order l k = done at *
      have HS1 := Lib.hid (HS.out.below ((Below.refl _ _).alloc (Nat.le_refl _) (.cells (ndR x) 39)))
      have HA1 : Hid (Ap wr.heap.size x u6 (wr.alloc (.cells (ndR x) 39))) := Lib.hid ⟨Blk.new _ _ _, fun e => by have := HS.out.own.lt e; omega⟩
      have HI := Lib.hid idx45
      have HgB : Hid (B1 ≤ wr.heap.size) := Lib.hid HS.out.sz
      clear HS hB
      unfold ndR at HA1 HS1
      go_wp2
      generalize wr.heap.size = g at *
      generalize wr.alloc (.cells #[Value.int IntKind.i64 x.id, Value.int IntKind.i64 x.v, Value.int IntKind.i64 x.lo, Value.int IntKind.i64 x.hi, Value.int IntKind.i64 x.refs] 39) = wr1 at *
      clear d0 d1 d2 d3 d4
      go_loopw [6, 21] (fun v i wr => ∃ j : Nat, j ≤ 5 ∧ i = .int .i64 (j : Int) ∧ Hid (NS order l w B1 T bp bt bm bs k v (done ++ part j) wr) ∧ Hid (Ap g x v wr)) (fun _ i _ => 5 - (intOf i).toNat)
      case atStart => exact ⟨0, by omega, rfl, by rw [HP0.out, List.append_nil]; exact HS1, HA1⟩
      case round =>
        obtain ⟨j, hj, rfl, HS, HA⟩ := hrel
        clear HS1 HA1
        have hg := HA.out.1
        by_cases hjt : j < 5
        · have l2 : (j : Int) < 5 := by omega
          have HV := Lib.hid (e_vio (kd j) (kd_in j hjt) x HX.out wr HS.out.tb)
          have HPFj := Lib.hid (HPF.out j)
          rw [HVK.out] at HV
          have HLj := Lib.hid (HLn.out j hj)
          have hidx := HI.out j hjt
          generalize kd j = K at *
          obtain ⟨p, hp⟩ : ∃ p, V K = p := ⟨_, rfl⟩
          have HPj := Lib.hid (HPFj.out p hp)
          rw [hp] at HV
          have c0 := hg.cell 0
          have c1 := hg.cell 1
          have c2 := hg.cell 2
          have c3 := hg.cell 3
          have c4 := hg.cell 4
          clear hp HPFj hg
          unfold ndV at HV
          unfold ndR at HV
          simp only [ndR, List.getElem?_toArray, List.getElem?_cons_zero, List.getElem?_cons_succ] at c0 c1 c2 c3 c4
          have HN2 : Hid (∀ w2, Below wr.heap.size wr w2 → NS order l w B1 T bp bt bm bs k _ (done ++ part j) w2 ∧ Ap g x _ w2) := Lib.hid (fun w2 hh => ⟨HS.out.below hh, HA.out.below hh⟩)
          clear HS HA
          cases p
          · have HPE : Hid (part (j + 1) = part j) := Lib.hid (by rw [HPj.out]; simp)
            go_wp2_with (go_at_call 15; refine HV.out.mono ?_; rintro e w2 ⟨rfl, hb2⟩; have HF := Lib.hid (HN2.out w2 hb2); clear hb2)
            go_roundw
            case rel => exact ⟨j + 1, by omega, by go_num, by rw [HPE.out]; exact Lib.hid HF.out.1, Lib.hid HF.out.2⟩
            case measure => simp [intOf]; try omega
          · have HPE : Hid (part (j + 1) = part j ++ [⟨K, x.id⟩]) := Lib.hid (by rw [HPj.out]; simp)
            go_upto_region 10 with (go_at_call 15; refine HV.out.mono ?_; rintro e w2 ⟨rfl, hb2⟩; have HF := Lib.hid (HN2.out w2 hb2); have b0 := HF.out.2.1.cell 0; simp only [ndR, List.getElem?_toArray, List.getElem?_cons_zero, List.getElem?_cons_succ] at b0; clear hb2)
            go_wp2_with (at_builtin; refine wpList_app_fd rfl (.tmp 28) (.tmp 33) 25 31 Try.underlying25 info31 rfl w2 B1 u6 (done ++ part j) rfl HF.out.1.own K x.id w2.heap.size rfl rfl HF.out.1.sz HLj.out ?_; intro v4 w4 hO4 ha4; have HG := Lib.hid (And.intro (HF.out.1.app hO4 ha4) (HF.out.2.app ha4)); clear hO4 ha4)
            go_roundw
            case rel => exact ⟨j + 1, by omega, by go_num, by rw [HPE.out, ← List.append_assoc]; exact Lib.hid HG.out.1, Lib.hid HG.out.2⟩
            case measure => simp [intOf]; try omega
        · have l2 : ¬ (j : Int) < 5 := by omega
          obtain rfl : j = 5 := by omega
          have hg := HA.out.1
          have c0 := hg.cell 0
          have t2 := HS.out.tb.t.cell 2
          obtain ⟨w1, hput, hM, hgr⟩ := HS.out.tb.drew.m.put law3 Try.underlying47 (keyOf_int_mk Try.underlying3 HX.out.id.wf) (by have := HL1.out; unfold maxLen; omega)
          have htb1 := HS.out.tb.drew.putM hM hgr
          have hown1 : OwnF w1 B1 31 u6 (done ++ part 5) := (show OwnF wr.drew B1 31 u6 (done ++ part 5) from HS.out.own).grown hgr HS.out.t1.2.2.2.1
          have hbel1 : Below w.heap.size w w1 := HS.out.bel.drew.grown hgr HS.out.bel.size (fun i hi => by injection hi with hi; have := HS.out.t2.2.1; omega)
          have hsz1 : B1 ≤ w1.heap.size := Nat.le_trans HS.out.sz hgr.size
          have hblk1 : Blk w1 g 39 (ndR x) := (hgr.block g hg.lt (by intro e; injection e with e; have := HS.out.t1.2.2.2.1; have := HgB.out; omega)).trans hg
          have HC2 := Lib.hid (e_shapeOf x w1.drew)
          have HW2 : Hid (∀ w2, Below w1.heap.size w1.drew w2 → Blk w2 T 50 #[.map (some bp), .map (some bt), .map (some bm), .map (some bs)] ∧ ∃ w3, (Instr.mapUpdate 48 (.map (some bs)) (.agg #[.int .i64 x.v, .int .i64 x.lo, .int .i64 x.hi]) (.bool true)).run Try.prog w2 = .ok () w3 ∧ NS order l w B1 T bp bt bm bs (k + 1) u6 (done ++ part 5) w3) := Lib.hid (fun w2 hh => by
            have htb2 := htb1.drew.below hh
            obtain ⟨w3, hp3, hS3, hg3⟩ := htb2.s.put law52 Try.underlying48 (skey_of HX.out.v HX.out.lo HX.out.hi) (by have := HL1.out; unfold maxLen; omega)
            refine ⟨htb2.t, w3, hp3, ?_, ?_, ?_, ?_, HS.out.t1, HS.out.t2⟩
            · have := htb2.putS hS3 hg3
              rw [HTK.out, metS_snoc, shS_snoc]
              exact this
            · exact ((show OwnF w1.drew B1 31 u6 (done ++ part 5) from hown1).below hh).grown hg3 HS.out.t1.2.2.2.2
            · exact (hbel1.drew.trans (hh.mono hbel1.size)).grown hg3 (Nat.le_trans hbel1.size hh.size) (fun i hi => by injection hi with hi; have := HS.out.t2.2.2; omega)
            · exact Nat.le_trans (Nat.le_trans hsz1 hh.size) hg3.size)
          have e0 := hblk1.cell 0
          have e1 := hblk1.cell 1
          have e2 := hblk1.cell 2
          have e3 := hblk1.cell 3
          have e4 := hblk1.cell 4
          have u3 := htb1.t.cell 3
          simp only [ndR, List.getElem?_toArray, List.getElem?_cons_zero, List.getElem?_cons_succ] at c0 t2 e0 e1 e2 e3 e4 u3
          unfold ndV ndR at HC2
          clear hM hgr htb1 hown1 hbel1 hsz1 hblk1 hg HS HA
          go_wp2
          go_region
          go_wp2
          go_region_with (go_at_call 16; refine HC2.out.mono ?_; rintro e w2 ⟨rfl, hb2⟩; obtain ⟨q1, w3, hput3, hN3⟩ := HW2.out w2 hb2; have y3 := q1.cell 3; simp only [List.getElem?_toArray, List.getElem?_cons_zero, List.getElem?_cons_succ] at y3; have HF := Lib.hid hN3; clear hb2 q1 hN3)
          all_goals
            go_wp2
            go_roundw
            case rel => exact ⟨k + 1, by omega, by go_num, by rw [HAF.out]; exact HF⟩
            case measure => simp [intOf]; try omega
    · have l1 : ¬ (k : Int) < (l.length : Int) := by omega
      obtain rfl : k = l.length := by omega
      go_wp2
      go_ret
      exact ⟨_, rfl, HS.out.own.mono HS.out.t2.1, HS.out.bel⟩
end Go.Proofs.Ytmpcfplpdbdmmaa
