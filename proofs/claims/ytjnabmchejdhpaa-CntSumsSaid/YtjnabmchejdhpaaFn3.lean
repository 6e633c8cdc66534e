/- Contract of Add of layer 4 (cnt), over the translation. -/
import Derived.Test.YtjnabmchejdhpaaFn2
namespace Go.Proofs.Ytjnabmchejdhpaa
open Go.RowKit

theorem Own.trim {w : World} {B : Nat} {A : Option Addr} {c : Nat} {l : List Int} (h : Own w B (.slice A l.length c) l) : Own w B (.slice A (trimL l).length c) (trimL l) := by
  have hle : (trimL l).length ≤ l.length := by unfold trimL; rw [List.length_take]; omega
  rcases h.2 with ⟨e, h0⟩ | ⟨g, cap, cur, e, hg, hh, hn, hc, hsz, htk⟩
  · injection e with e1 e2 e3
    subst e1 e3
    have e4 : (trimL l).length = 0 := by omega
    exact ⟨by simp, .inl ⟨by rw [e4], e4⟩⟩
  · injection e with e1 e2 e3
    subst e1 e3
    refine ⟨by simp, .inr ⟨g, c, cur, rfl, hg, hh, by omega, hc, by simpa using hsz, ?_⟩⟩
    have h5 : (trimL l).length * 1 = min (trimL l).length (l.length * 1) := by omega
    have h6 : cur.toList.take ((trimL l).length * 1) = (cur.toList.take (l.length * 1)).take (trimL l).length := by
      rw [List.take_take, ← h5]
    rw [show (trimL l).map (Value.int .u32) = (l.map (Value.int .u32)).take (trimL l).length by
      rw [← List.map_take]; congr 1
      rw [trimL_len]; rfl]
    first | rw [h6, htk] | (simp only [Nat.mul_one] at *; rw [h6, htk])
/-- A number that a call gives: normalized, in memory of its own. -/
def Res (w w' : World) (x : Int) (M : Nat) (e : Ending) : Prop :=
  ∃ v s, e = .returned v ∧ Own w' w.heap.size v s ∧ Dig s ∧ nrm s = true ∧ val s = x ∧ s.length ≤ M ∧ Below w.heap.size w w'
/-- Trim at a call's end. -/
theorem trim_res {w wr : World} {A : Option Addr} {c : Nat} {l : List Int} {x : Int} {M : Nat} (hO : Own wr w.heap.size (.slice A l.length c) l) (hD : Dig l) (hx : val l = x) (hM : l.length ≤ M) (hM2 : l.length ≤ 1000000000000) (hb : Below w.heap.size w wr) :
    Calls Try.prog 36 #[.slice A l.length c] wr fun e w' => Res w w' x M e := by
  obtain ⟨A2, c2, e, h1, h2, hR, _⟩ := hO.len_cap
  injection e with e1 e2 e3
  subst e1 e3
  refine (cnt_trim A c l wr hR hM2 h1 h2).mono ?_
  rintro e w1 ⟨rfl, hb1⟩
  refine ⟨_, _, rfl, (hO.keep hb1).trim, trimL_dig hD, trimL_nrm l, by rw [trimL_val, hx], ?_, hb.trans (hb1.mono hb.size)⟩
  have := trimN_le l l.length
  rw [trimL_len]; omega

abbrev Nt := Option Addr × Nat × List Int
/-- The numbers ns lie one after another, below B. -/
structure NatsAt (w : World) (B b off : Nat) (ns : List Nt) : Prop where
  lt : b < B
  cell : ∀ i (h : i < ns.length), w.cell? ⟨b, off + i, none⟩ = some (.slice ns[i].1 ns[i].2.2.length ns[i].2.1)
  row : ∀ i (h : i < ns.length), RI w B ns[i].1 ns[i].2.2
def sumV (ns : List Nt) : Int := (ns.map fun n => val n.2.2).sum
theorem sumV_succ {ns : List Nt} {k : Nat} (h : k < ns.length) : sumV (ns.take (k + 1)) = sumV (ns.take k) + val ns[k].2.2 := by
  unfold sumV; rw [List.take_succ_eq_append_getElem h]; simp only [List.map_append, List.sum_append, List.map_cons, List.map_nil, List.sum_cons, List.sum_nil, Int.add_zero]

set_option maxHeartbeats 2000000 in
theorem cnt_Add (b off cl M : Nat) (ns : List Nt) (w : World) (h : NatsAt w w.heap.size b off ns) (hD : ∀ i (h : i < ns.length), Dig ns[i].2.2) (hM : ∀ i (h : i < ns.length), ns[i].2.2.length ≤ M) (hMM : M ≤ 100000000) (hns : ns.length ≤ 100000000) :
    Calls Try.prog 14 #[.slice (some ⟨b, off, none⟩) ns.length cl] w fun e w' => Res w w' (sumV ns) (M + ns.length) e := by
  have H := Lib.hid h
  have HD := Lib.hid hD
  have HM := Lib.hid hM
  clear h hD hM
  go_enter Try.func14, Try.ntmps14
  go_wp2
  go_loopw [3, 8] (fun x i wr => ∃ (k : Nat) (t : List Int), k ≤ ns.length ∧ i = .int .i64 k ∧ t.length ≤ M + k ∧ Hid (Own wr w.heap.size x t ∧ Dig t ∧ val t = sumV (ns.take k)) ∧ Below w.heap.size w wr) (fun _ i _ => ns.length - (intOf i).toNat)
  case atStart => exact ⟨0, [], Nat.zero_le _, rfl, by simp, Lib.hid ⟨Own.nil _ _, Dig.nil, rfl⟩, Below.refl _ _⟩
  case round =>
    obtain ⟨k, t, hk, rfl, htl, HT, hb⟩ := hrel
    by_cases hlt : k < ns.length
    · have e1 := (hb.cell (p := ⟨b, off + k, none⟩) H.out.lt).trans (H.out.cell k hlt)
      have HR := Lib.hid ((H.out.row k hlt).below hb)
      have hl1 := HM.out k hlt
      have HV := Lib.hid (sumV_succ hlt)
      have HC := Lib.hid (cnt_increase w.heap.size u3 t ns[k].1 ns[k].2.1 ns[k].2.2 wr HT.out.1 hb.size HR.out HT.out.2.1 (HD.out k hlt) (by omega) (by omega))
      generalize ns[k].1 = A at e1 HR HC
      generalize ns[k].2.1 = ca at e1 HC
      generalize ns[k].2.2 = a at e1 HR HC HV hl1
      go_wp2_with (first
        | (go_at_call 37; refine HC.out.mono ?_; rintro e w1 ⟨v', s', rfl, hO, hD1, hv1, hl2, hb1⟩; have HO := Lib.hid hO; have HD1 := Lib.hid hD1; have HV1 := Lib.hid hv1; clear hO hD1 hv1))
      go_roundw
      case rel => exact ⟨k + 1, s', by omega, by go_num, by omega, Lib.hid ⟨HO.out, HD1.out, by rw [HV1.out, HT.out.2.2, HV.out]⟩, hb.trans hb1⟩
      case measure => simp [intOf]; omega
    · obtain rfl : k = ns.length := by omega
      have HT2 := HT.out.2.2
      rw [List.take_length] at HT2
      have HV := Lib.hid HT2
      clear HT2
      obtain ⟨A, c, rfl, _⟩ := HT.out.1.len_cap
      go_wp2_with (first
        | (go_at_call 36; refine (trim_res HT.out.1 HT.out.2.1 HV.out htl (by omega) hb).mono ?_; rintro e w1 ⟨v', s', rfl, hR⟩; have HR := Lib.hid hR; clear hR))
      go_ret
      exact ⟨_, _, rfl, HR.out⟩
end Go.Proofs.Ytjnabmchejdhpaa
