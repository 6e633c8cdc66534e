/- The contract of newTable; layer 25 (ddaudit). -/
import Derived.Test.YtmpcfplpdbdmmaaFn4
namespace Go.Proofs.Ytmpcfplpdbdmmaa
open Go.RowKit Go.Maps

theorem blk_drew {w : World} {g : Nat} {t : TypeId} {cs : Array Value} (h : Blk w g t cs) : Blk w.drew g t cs := h
def TabP (order : List Int) (l : List Nd) (w : World) (e : Ending) (w' : World) : Prop :=
  ∃ T bp bt bm bs, e = .returned (.pointer (some ⟨T, 0, none⟩)) ∧ w.heap.size ≤ T ∧ w.heap.size ≤ bm ∧ w.heap.size ≤ bs ∧ Tb w' T l.length (idxF order) (topsF (idxF order) l) noS noS bp bt bm bs ∧ Below w.heap.size w w'
set_option maxRecDepth 100000 in
set_option maxHeartbeats 4000000 in
theorem e_newTable (order : List Int) (l : List Nd) (A : Option Addr) (ca : Nat) (C : Option Addr) (cc : Nat) (w : World) (hA : RowI w.heap.size w A order) (hC : RowN w.heap.size w C l) (hO : OkI order) (hN : OkN l) (hl1 : order.length ≤ 9223372036854775807) (hl2 : l.length ≤ 1000) :
    Calls Try.prog 14 #[.slice A order.length ca, .slice C l.length cc] w (TabP order l w) := by
  have HA := Lib.hid hA
  have HC := Lib.hid hC
  have HO := Lib.hid hO
  have HN := Lib.hid hN
  have HL1 := Lib.hid hl1
  have HL2 := Lib.hid hl2
  have m1 := make33
  have m2 := make47
  have m3 := make48
  have HT0 := Lib.hid (Tb.new w)
  have HB0 : Hid (Below w.heap.size w (((((w.alloc (.map #[] 0)).alloc (.map #[] 0)).alloc (.map #[] 0)).alloc (.map #[] 0)).alloc (.cells #[.map (some w.heap.size), .map (some (w.heap.size + 1)), .map (some (w.heap.size + 1 + 1)), .map (some (w.heap.size + 1 + 1 + 1))] 50))) :=
    Lib.hid ((((((Below.refl _ _).alloc (Nat.le_refl _) _).alloc (by simp <;> omega) _).alloc (by simp <;> omega) _).alloc (by simp <;> omega) _).alloc (by simp <;> omega) _)
  clear hA hC hO hN hl1 hl2
  go_enter Try.func14, Try.ntmps14
  go_upto_region 2 with (fail)
  have HI0 : Hid (IM (((((w.alloc (.map #[] 0)).alloc (.map #[] 0)).alloc (.map #[] 0)).alloc (.map #[] 0)).alloc (.cells #[.map (some w.heap.size), .map (some (w.heap.size + 1)), .map (some (w.heap.size + 1 + 1)), .map (some (w.heap.size + 1 + 1 + 1))] 50)) w.heap.size 0 noF) :=
    Lib.hid (by
      have b : ∀ (w : World) (o : Obj), Below w.heap.size w (w.alloc o) := fun w o => (Below.refl _ _).alloc (Nat.le_refl _) o
      exact ((((IM.made w).below (b _ _) (IM.made w).lt).below (b _ _) (by simp <;> omega)).below (b _ _) (by simp <;> omega)).below (b _ _) (by simp <;> omega))
  have HBT : Hid (w.heap.size ≤ w.heap.size + 1) := Lib.hid (by omega)
  have HSZ : Hid (w.heap.size ≤ w.heap.size + 1 + 1 + 1 + 1 ∧ w.heap.size ≤ w.heap.size + 1 + 1 + 1 ∧ w.heap.size ≤ w.heap.size + 1 + 1) := Lib.hid (by omega)
  generalize w.heap.size + 1 + 1 + 1 + 1 = T at *
  generalize w.heap.size + 1 + 1 + 1 = bs at *
  generalize w.heap.size + 1 + 1 = bm at *
  generalize w.heap.size + 1 = bt at *
  generalize ((((w.alloc (.map #[] 0)).alloc (.map #[] 0)).alloc (.map #[] 0)).alloc (.map #[] 0)).alloc (.cells #[.map (some w.heap.size), .map (some bt), .map (some bm), .map (some bs)] 50) = w0 at *
  clear m1 m2 m3
  go_wp2
  go_loopw [23] (fun i wr => ∃ k : Nat, k ≤ order.length ∧ i = .int .i64 (k : Int) ∧ Hid (Tb wr T 0 (idxF (order.take k)) noF noS noS w.heap.size bt bm bs ∧ IM wr w.heap.size k (idxF (order.take k))) ∧ Hid (Below w.heap.size w wr)) (fun i _ => order.length - (intOf i).toNat)
  case atStart => exact ⟨0, Nat.zero_le _, rfl, Lib.hid ⟨HT0.out, HI0.out⟩, HB0⟩
  case round =>
    obtain ⟨k, hk, rfl, HTI, HB⟩ := hrel
    have hbd := HL1.out
    have HT := Lib.hid HTI.out.1
    have HI := Lib.hid HTI.out.2
    clear HTI
    by_cases hlt : k < order.length
    · have l1 : (k : Int) < (order.length : Int) := by omega
      obtain ⟨b, f0, rfl, hbl, hc⟩ := HA.out (by omega)
      have d0 := (HB.out.cell (p := ⟨b, f0 + k, none⟩) hbl).trans (hc k hlt)
      have hv := HO.out k hlt
      have t0 := HT.out.t.cell 0
      obtain ⟨c, hrun, -, -⟩ := HT.out.p.look hv
      have HK : Hid (In64 (k : Int) ∧ k < maxLen) := Lib.hid ⟨by have := HL1.out; unfold In64; omega, by have := HL1.out; unfold maxLen; omega⟩
      have HTK := Lib.hid (ia_take hlt)
      have HLT : Hid ((order.take k).length = k) := Lib.hid (by rw [List.length_take]; omega)
      simp only [List.getElem?_toArray, List.getElem?_cons_zero, List.getElem?_cons_succ] at t0
      generalize ia order k = v at *
      obtain ⟨q, hq⟩ : ∃ q, (idxF (order.take k) v).isSome = q := ⟨_, rfl⟩
      rw [hq] at hrun
      have HQ := Lib.hid hq
      clear hc hq
      cases q
      · obtain ⟨w1, hput, hI, hg⟩ := HI.out.put hv HK.out.1 HK.out.2
        have HT1 : Hid (Tb w1 T 0 (idxF (order.take (k + 1))) noF noS noS w.heap.size bt bm bs ∧ IM w1 w.heap.size (k + 1) (idxF (order.take (k + 1)))) := Lib.hid (by
          rw [HTK.out, idxF_new HQ.out, HLT.out]; exact ⟨HT.out.putP ⟨_, hI⟩ hg, hI⟩)
        have HB1 : Hid (Below w.heap.size w w1) := Lib.hid (HB.out.grown hg HB.out.size (fun j hj => by cases hj; exact Nat.le_refl _))
        clear hI hg
        go_wp2
        go_roundw
        case rel => exact ⟨k + 1, by omega, by go_num, HT1, HB1⟩
        case measure => simp [intOf]; try omega
      · have HT1 : Hid (Tb wr T 0 (idxF (order.take (k + 1))) noF noS noS w.heap.size bt bm bs ∧ IM wr w.heap.size (k + 1) (idxF (order.take (k + 1)))) := Lib.hid (by
          rw [HTK.out, idxF_old HQ.out]; exact ⟨HT.out, HI.out.mono (by omega)⟩)
        go_wp2
        go_roundw
        case rel => exact ⟨k + 1, by omega, by go_num, HT1, HB⟩
        case measure => simp [intOf]; try omega
    · have l1 : ¬ (k : Int) < (order.length : Int) := by omega
      obtain rfl : k = order.length := by omega
      have HTa : Hid (Tb wr T 0 (idxF order) noF noS noS w.heap.size bt bm bs) := Lib.hid (by have := HT.out; rwa [List.take_length] at this)
      clear HT HI HT0 HB0 HI0
      go_wp2
      go_loopw [48] (fun i wr => ∃ k : Nat, k ≤ l.length ∧ i = .int .i64 (k : Int) ∧ Hid (Tb wr T k (idxF order) (topsF (idxF order) (l.take k)) noS noS w.heap.size bt bm bs) ∧ Hid (Below w.heap.size w wr)) (fun i _ => l.length - (intOf i).toNat)
      case atStart => exact ⟨0, Nat.zero_le _, rfl, HTa, HB⟩
      case round =>
        clear HTa HB hk l1 hlt
        obtain ⟨k, hk, rfl, HT, HB⟩ := hrel
        have hbd := HL2.out
        by_cases hlt : k < l.length
        · have l1 : (k : Int) < (l.length : Int) := by omega
          obtain ⟨b, f0, rfl, hbl, hc⟩ := HC.out (by omega)
          obtain ⟨a0, a1, a2, a3, a4⟩ := hc k hlt
          have d0 := (HB.out.cell (p := ⟨b, f0 + k * 5, none⟩) hbl).trans a0
          have d1 := (HB.out.cell (p := ⟨b, f0 + k * 5 + 1, none⟩) hbl).trans a1
          have d2 := (HB.out.cell (p := ⟨b, f0 + k * 5 + 2, none⟩) hbl).trans a2
          have d3 := (HB.out.cell (p := ⟨b, f0 + k * 5 + 3, none⟩) hbl).trans a3
          have d4 := (HB.out.cell (p := ⟨b, f0 + k * 5 + 4, none⟩) hbl).trans a4
          have hx := HN.out k hlt
          have HTK := Lib.hid (na_take hlt)
          clear hc a0 a1 a2 a3 a4
          generalize na l k = x at *
          have HX : Hid (Below wr.heap.size wr (wr.alloc (.cells (ndR x) 39)) ∧ wr.heap.size < (wr.alloc (.cells (ndR x) 39)).heap.size) := Lib.hid ⟨(Below.refl _ _).alloc (Nat.le_refl _) _, by simp⟩
          have hT1 := HT.out.below HX.out.1
          have t1 := hT1.t.cell 1
          obtain ⟨c, hrun, hcv, -⟩ := hT1.drew.o.look hx.id
          have hP := e_position x hx (wr.alloc (.cells (ndR x) 39)).drew hT1.drew
          have hblk : Blk (wr.alloc (.cells (ndR x) 39)) wr.heap.size 39 (ndR x) := Blk.new _ _ _
          have HW2 : Hid (∀ w2, Below (wr.alloc (.cells (ndR x) 39)).heap.size (wr.alloc (.cells (ndR x) 39)).drew w2 → Tb w2.drew T k (idxF order) (topsF (idxF order) (l.take k)) noS noS w.heap.size bt bm bs ∧ Blk w2 wr.heap.size 39 (ndR x) ∧ Below w.heap.size w w2) :=
            Lib.hid (fun w2 hh => ⟨(hT1.drew.below hh).drew, (blk_drew hblk).below hh hblk.lt, (HB.out.trans (HX.out.1.mono HB.out.size)).trans ((Below.refl _ _).drew.trans (hh.mono (by have := HB.out.size; have := HX.out.2; omega)))⟩)
          have HPZ : Hid (In64 (posZ (idxF order) x.v)) := Lib.hid (posZ_in (by have := HL1.out; omega) _)
          have HM : Hid (k < maxLen) := Lib.hid (by have := HL2.out; unfold maxLen; omega)
          have HID : Hid (In64 x.id) := Lib.hid hx.id
          have HNew : Hid (∀ (w2 w3 : World) (tp : Int → Option Int), Tb w2.drew T k (idxF order) (topsF (idxF order) (l.take k)) noS noS w.heap.size bt bm bs → Below w.heap.size w w2 → IM w3 bt (k + 1) tp → w2.drew.grownBy w3 (some bt) → tp = topsF (idxF order) (l.take (k + 1)) → w.heap.size ≤ bt →
              Tb w3 T (k + 1) (idxF order) (topsF (idxF order) (l.take (k + 1))) noS noS w.heap.size bt bm bs ∧ Below w.heap.size w w3) := Lib.hid (fun w2 w3 tp h1 h2 h3 h4 h5 h6 => by
            subst h5
            exact ⟨h1.putO h3 h4, h2.drew.grown h4 h2.drew.size (fun j hj => by cases hj; exact h6)⟩)
          have HSnoc : Hid (topsF (idxF order) (l.take (k + 1)) = topStep (idxF order) (topsF (idxF order) (l.take k)) x) := Lib.hid (by rw [HTK.out, topsF_snoc])
          have HOld : Hid (∀ (w2 : World), Tb w2.drew T k (idxF order) (topsF (idxF order) (l.take k)) noS noS w.heap.size bt bm bs → topsF (idxF order) (l.take k) = topsF (idxF order) (l.take (k + 1)) → Tb w2 T (k + 1) (idxF order) (topsF (idxF order) (l.take (k + 1))) noS noS w.heap.size bt bm bs) := Lib.hid (fun w2 h1 h2 => by
            rw [← h2]
            exact Tb.mono ⟨h1.t, h1.p, h1.o, h1.m, h1.s, h1.d⟩ (by omega))
          simp only [List.getElem?_toArray, List.getElem?_cons_zero, List.getElem?_cons_succ] at t1
          have HPos := Lib.hid hP
          have HSH : Hid (wr.heap.size < (wr.alloc (.cells (ndR x) 39)).heap.size) := Lib.hid HX.out.2
          have HbT : Hid (w.heap.size ≤ bt) := HBT
          have HDr : Hid (∀ w2 : World, w2.drew.heap = w2.heap) := Lib.hid (fun _ => rfl)
          clear hP hblk hT1 HX hx HT
          unfold ndV at HPos
          unfold ndR at *
          obtain ⟨z, hz⟩ : ∃ z, posZ (idxF order) x.v = z := ⟨_, rfl⟩
          obtain ⟨Fo, hFo⟩ : ∃ Fo, topsF (idxF order) (l.take k) x.id = Fo := ⟨_, rfl⟩
          rw [hFo] at hrun hcv
          have HF := Lib.hid hFo
          have HZ := Lib.hid hz
          rw [hz] at HPos HPZ
          clear hFo hz
          cases Fo with
          | none =>
            have HTp : Hid (putF (topsF (idxF order) (l.take k)) x.id z = topsF (idxF order) (l.take (k + 1))) := Lib.hid (by rw [HSnoc.out]; unfold topStep; rw [HF.out, HZ.out])
            clear HF HZ hcv HSnoc HOld
            simp only [Option.isSome_none] at hrun
            go_wp2
            go_region
            go_wp2_with (go_at_call 27; refine HPos.out.mono ?_; rintro r w2 ⟨rfl, hb2⟩; obtain ⟨q1, q2, q3⟩ := HW2.out w2 hb2; have e1 := q2.cell 0; have u1 := q1.t.cell 1; obtain ⟨w3, hput, hI, hg⟩ := q1.o.put HID.out HPZ.out HM.out; have HEnd := Lib.hid (HNew.out w2 w3 _ q1 q3 hI hg HTp.out HbT.out); simp only [List.getElem?_toArray, List.getElem?_cons_zero, List.getElem?_cons_succ] at e1 u1; clear hb2 q1 q2 q3 hI hg)
            go_region
            go_wp2
            go_roundw
            case rel => exact ⟨k + 1, by omega, by go_num, Lib.hid HEnd.out.1, Lib.hid HEnd.out.2⟩
            case measure => simp [intOf]; try omega
          | some t =>
            obtain rfl : c = t := hcv t rfl
            simp only [Option.isSome_some] at hrun
            by_cases hzt : z < c
            · have HTp : Hid (putF (topsF (idxF order) (l.take k)) x.id z = topsF (idxF order) (l.take (k + 1))) := Lib.hid (by rw [HSnoc.out]; unfold topStep; rw [HF.out, HZ.out]; exact (if_pos hzt).symm)
              clear HF HZ hcv HSnoc HOld
              go_wp2
              go_region
              go_wp2_with (go_at_call 27; refine HPos.out.mono ?_; rintro r w2 ⟨rfl, hb2⟩; obtain ⟨q1, q2, q3⟩ := HW2.out w2 hb2; have e1 := q2.cell 0; have u1 := q1.t.cell 1; obtain ⟨w3, hput, hI, hg⟩ := q1.o.put HID.out HPZ.out HM.out; have HEnd := Lib.hid (HNew.out w2 w3 _ q1 q3 hI hg HTp.out HbT.out); simp only [List.getElem?_toArray, List.getElem?_cons_zero, List.getElem?_cons_succ] at e1 u1; clear hb2 q1 q2 q3 hI hg)
              go_region
              go_wp2
              go_roundw
              case rel => exact ⟨k + 1, by omega, by go_num, Lib.hid HEnd.out.1, Lib.hid HEnd.out.2⟩
              case measure => simp [intOf]; try omega
            · have HTp : Hid (topsF (idxF order) (l.take k) = topsF (idxF order) (l.take (k + 1))) := Lib.hid (by rw [HSnoc.out]; unfold topStep; rw [HF.out, HZ.out]; exact (if_neg hzt).symm)
              clear HF HZ hcv HSnoc HNew
              go_wp2
              go_region
              go_wp2_with (go_at_call 27; refine HPos.out.mono ?_; rintro r w2 ⟨rfl, hb2⟩; have HEnd := Lib.hid (And.intro (HOld.out w2 (HW2.out w2 hb2).1 HTp.out) (HW2.out w2 hb2).2.2); clear hb2)
              go_roundw
              case rel => exact ⟨k + 1, by omega, by go_num, Lib.hid HEnd.out.1, Lib.hid HEnd.out.2⟩
              case measure => simp [intOf]; try omega
        · have l1 : ¬ (k : Int) < (l.length : Int) := by omega
          obtain rfl : k = l.length := by omega
          have HEnd : Hid (Tb wr T l.length (idxF order) (topsF (idxF order) l) noS noS w.heap.size bt bm bs) := Lib.hid (by have := HT.out; rwa [List.take_length] at this)
          go_wp2
          go_ret
          exact ⟨T, w.heap.size, bt, bm, bs, rfl, HSZ.out.1, HSZ.out.2.2, HSZ.out.2.1, HEnd.out, HB.out⟩
end Go.Proofs.Ytmpcfplpdbdmmaa
