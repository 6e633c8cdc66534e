/- The iterators of a pool, of layer 9 (pool), over the translation. -/
import Derived.Test.YtljclikholchmaaFn7
import Derived.Test.YtljclikholchmaaIter
import Derived.Shelf.Abstract
import Derived.Shelf.RegionOpen
import Derived.OwnWalkIn
import Derived.TacticsInMore
import Derived.LoopNIn
import Derived.LoopIn
namespace Go.Proofs.Ytljclikholchmaa
open Go.RowKit Go.Shelf
theorem wide_fn (f : FuncId) : Fence.wide.fn f = True := rfl
theorem wide_depth : Fence.wide.depth = none := rfl
attribute [local go_sem] Oper.semAt_some wide_fn wide_depth
theorem wf_i64 {a : Int} (h : -9223372036854775808 ≤ a) (h2 : a ≤ 9223372036854775807) : (Lit.int .i64 a).wf = true := by
  have e1 : IntKind.i64.min = -9223372036854775808 := rfl
  have e2 : IntKind.i64.max = 9223372036854775807 := rfl
  simp [Lit.wf, e1, e2]
  omega

/-- The allocated slots among the first k. -/
def takenL (N : List Nd) (k : Nat) : List Nat := (List.range k).filter fun i => (N.getD i nd0).id == (i : Int) + 1
theorem takenL_succ (N : List Nd) (k : Nat) : takenL N (k + 1) = takenL N k ++ (if (N.getD k nd0).id == (k : Int) + 1 then [k] else []) := by
  unfold takenL
  rw [List.range_succ, List.filter_append]
  congr 1
  simp only [List.filter_cons, List.filter_nil]
theorem takenL_pre (N : List Nd) {k m : Nat} (h : k ≤ m) : takenL N k <+: takenL N m := by
  unfold takenL
  induction m with
  | zero => obtain rfl : k = 0 := by omega
            exact List.prefix_rfl
  | succ m ih =>
    rcases Nat.eq_or_lt_of_le h with rfl | h
    · exact List.prefix_rfl
    · rw [List.range_succ, List.filter_append]
      exact (ih (by omega)).trans (List.prefix_append _ _)
theorem takenL_get (N : List Nd) {k : Nat} (hk : k < N.length) (h : (N.getD k nd0).id = (k : Int) + 1) : (takenL N N.length)[(takenL N k).length]? = some k := by
  obtain ⟨t, ht⟩ := takenL_pre N (show k + 1 ≤ N.length by omega)
  rw [← ht, takenL_succ, h]
  simp
theorem hasF_at {N : List Nd} {k : Nat} (hk : k < N.length) : hasF N ((k : Int) + 1) = ((N.getD k nd0).id == (k : Int) + 1) := by
  unfold hasF
  have e3 : ((k : Int) + 1 - 1).toNat = k := by omega
  have t1 : decide (1 ≤ (k : Int) + 1) = true := decide_eq_true (by omega)
  have t2 : decide ((k : Int) + 1 ≤ (N.length : Int)) = true := decide_eq_true (by omega)
  rw [t1, t2, e3]
  simp
theorem own_kept {S : Nat → Prop} {w w' : World} {b e size n : Nat} {v : Value} {xs : List Value} (h : w.ownsRow b e size v n xs) (hk : Kept S w w') (hv : ∀ k, v.ownBlock = some k → S k) : w'.ownsRow b e size v n xs := by
  obtain ⟨h1, h2⟩ := h
  refine ⟨h1, ?_⟩
  rcases h2 with h2 | ⟨g, cap, cur, rfl, hg, hh, r⟩
  · exact .inl h2
  · exact .inr ⟨g, cap, cur, rfl, hg, (hk g (hv g rfl)).trans hh, r⟩
section
variable {w w' : World} {base bp : Nat} {room : Int} {An As : Option Addr} {cn cs : Nat} {N : List Nd} {st : List Int} {nf : Nat} {S : Nat → Prop}
theorem PoolIn.kept (h : PoolIn w base bp room An As cn cs N st nf) (hk : Kept S w w') (hS : ∀ b, PoolS bp An As b → S b) : PoolIn w' base bp room An As cn cs N st nf := by
  refine ⟨(hk bp (hS _ (.inl rfl))).trans h.head, own_kept h.nodes hk ?_, own_kept h.stack hk ?_, h.le, h.lo, h.nn, h.ns, h.ndist⟩
  · intro k e
    cases An with
    | none => cases e
    | some a => exact hS _ (.inr (.inl ⟨a, rfl, by simpa [Value.ownBlock] using e⟩))
  · intro k e
    cases As with
    | none => cases e
    | some a => exact hS _ (.inr (.inr ⟨a, rfl, by simpa [Value.ownBlock] using e⟩))
def takenV (N : List Nd) : List (Array Value) := (takenL N N.length).map fun (i : Nat) => #[Value.int .i64 ((i : Int) + 1)]
set_option maxRecDepth 100000 in
set_option maxHeartbeats 2000000 in
theorem iter_taken (h : PoolIn w base bp room An As cn cs N st nf) (hN : N.length ≤ 1048576) {Bc : Nat} (hB : Blk w Bc 24 #[.pointer (some ⟨bp, 0, none⟩)]) (hS : ∀ b, PoolS bp An As b → S b) (hSB : S Bc) (hSl : ∀ b, S b → b < w.heap.size) :
    Iter Try.prog 31 #[.pointer (some ⟨Bc, 0, none⟩)] (fun _ => false) S (takenV N) w := by
  intro l J Jx W hW hJ hJx hY h0
  have hJ0 := h0 W (Below.refl _ _)
  have hKW : Kept S w W := Kept.below hW hSl
  have hP := h.kept hKW hS
  have hBW : Blk W Bc 24 #[.pointer (some ⟨bp, 0, none⟩)] := (hKW _ hSB).trans hB
  have e0 := hBW.cell 0
  have e1 := hP.head.cell 1
  simp at e0 e1
  have HY := Lib.hid hY
  have HP := Lib.hid hP
  have HB := Lib.hid hBW
  have HJ0 := Lib.hid hJ0
  have HS := Lib.hid hS
  have HSB := Lib.hid hSB
  clear h hB hJ hJx hY h0 hP hBW hJ0 hKW hW hSl hS hSB
  refine callsIn_of_wp Try.func31 rfl trivial ?_ rfl
  simp only [Try.ntmps31, List.size_toArray, List.length_cons, List.length_nil, Nat.reduceAdd, Nat.reduceSub, Array.replicate_succ, Array.replicate_zero, List.push_toArray, List.append_toArray, List.nil_append, List.cons_append]
  gi_wp2
  gi_loopw [11] (fun i wr => ∃ k : Nat, k ≤ N.length ∧ i = .int .i64 k ∧ J (takenL N k).length wr ∧ Kept S W wr) (fun i _ => N.length - (intOf i).toNat)
  case atStart => exact ⟨0, Nat.zero_le _, rfl, HJ0.out, Kept.refl _ _⟩
  case round =>
    obtain ⟨k, hk, rfl, hJk, hKk⟩ := hrel
    have HJ := Lib.hid hJk
    have HK := Lib.hid hKk
    clear hJk hKk e0 e1
    have hPk := HP.out.kept HK.out HS.out
    have hBk : Blk wr Bc 24 #[.pointer (some ⟨bp, 0, none⟩)] := (HK.out _ HSB.out).trans HB.out
    have e0 := hBk.cell 0
    simp at e0
    by_cases hlt : k < N.length
    · have h1 : (k : Int) < (N.length : Int) := by omega
      have hcall := pool_has hPk hN ((k : Int) + 1) (wf_i64 (by omega) (by omega))
      rw [hasF_at hlt] at hcall
      have hs := takenL_succ N k
      have HC := Lib.hid hcall
      clear hPk hBk hcall
      cases hb : (N.getD k nd0).id == (k : Int) + 1 with
      | true =>
        rw [hb] at HC hs
        have hv : (takenV N)[(takenL N k).length]? = some #[.int .i64 ((k : Int) + 1)] := by
          unfold takenV
          rw [List.getElem?_map, takenL_get N hlt (by simpa using hb)]
          rfl
        obtain ⟨fn, tmps, assign, body, hy, hR⟩ := HY.out _ _ wr hv HJ.out
        have HR := Lib.hid hR
        have HV := Lib.hid hv
        have HL := Lib.hid (show (takenL N (k + 1)).length = (takenL N k).length + 1 by rw [hs]; simp)
        clear hs hb hv hR
        gi_wp2_with (gi_at_call 25; refine (callsIn_wide.2 HC.out).mono ?_; rintro e w1 ⟨rfl, rfl⟩)
        refine HR.out.mono ?_
        rintro e W3 (⟨rfl, hJ3, -, hK3⟩ | ⟨rfl, hX3, -⟩)
        · rw [← HL.out] at hJ3
          have HJ3 := Lib.hid hJ3
          have HK3 := Lib.hid (HK.out.trans hK3)
          clear HR hy HC e0 hJ3 hK3 HJ
          gi_wp2
          exact ⟨⟨k + 1, by omega, by go_num, HJ3.out, HK3.out⟩, by simp [intOf]; omega⟩
        · have HX := Lib.hid hX3
          clear HR hy HC e0 hX3 HJ
          gi_wp2
          refine bodyPost_ret (results_none rfl _ _ _) rfl ?_
          exact ⟨⟨_, rfl⟩, .inr ⟨_, (List.getElem?_eq_some_iff.1 HV.out).1, HX.out⟩⟩
      | false =>
        rw [hb] at HC hs
        have HL := Lib.hid (show (takenL N (k + 1)).length = (takenL N k).length by rw [hs]; simp)
        clear hs hb
        gi_wp2_with (gi_at_call 25; refine (callsIn_wide.2 HC.out).mono ?_; rintro e w1 ⟨rfl, rfl⟩)
        exact ⟨⟨k + 1, by omega, by go_num, by rw [HL.out]; exact HJ.out, HK.out⟩, by simp [intOf]; omega⟩
    · have HE := Lib.hid (show k = N.length by omega)
      clear hPk hBk
      gi_wp2
      go_end0
      refine ⟨⟨_, rfl⟩, .inl ?_⟩
      have h5 := HJ.out
      rw [HE.out] at h5
      unfold takenV
      rw [List.length_map]
      exact h5
theorem iter_taken_nil {w : World} {Bc : Nat} (hB : Blk w Bc 24 #[.pointer none]) (hSB : S Bc) (hSl : ∀ b, S b → b < w.heap.size) :
    Iter Try.prog 31 #[.pointer (some ⟨Bc, 0, none⟩)] (fun _ => false) S [] w := by
  intro l J Jx W hW hJ hJx hY h0
  have HJ0 := Lib.hid (h0 W (Below.refl _ _))
  have hBW : Blk W Bc 24 #[.pointer none] := ((Kept.below hW hSl) _ hSB).trans hB
  have e0 := hBW.cell 0
  simp at e0
  clear hB hJ hJx hY h0 hBW hW hSl hSB
  refine callsIn_of_wp Try.func31 rfl trivial ?_ rfl
  simp only [Try.ntmps31, List.size_toArray, List.length_cons, List.length_nil, Nat.reduceAdd, Nat.reduceSub, Array.replicate_succ, Array.replicate_zero, List.push_toArray, List.append_toArray, List.nil_append, List.cons_append]
  gi_wp2
  refine bodyPost_ret (results_none rfl _ _ _) rfl ?_
  exact ⟨⟨_, rfl⟩, .inl HJ0.out⟩
theorem run_taken (p : Option Addr) (w : World) : Calls Try.prog 30 #[.pointer p] w fun e w' => e = .returned (.func (.func 31) #[] #[.pointer (some ⟨w.heap.size, 0, none⟩)]) ∧ w.alloc (.cells #[.pointer p] 24) = w' := by
  go_enter Try.func30, Try.ntmps30
  go_wp2
  go_ret
  exact ⟨rfl, rfl⟩
theorem run_Each (p : Option Addr) (w : World) : Calls Try.prog 27 #[.pointer p] w fun e w' => e = .returned (.func (.func 29) #[] #[.pointer (some ⟨w.heap.size, 0, none⟩)]) ∧ w.alloc (.cells #[.pointer p] 24) = w' := by
  go_enter Try.func27, Try.ntmps27
  go_wp2
  go_ret
  exact ⟨rfl, rfl⟩
end
end Go.Proofs.Ytljclikholchmaa
