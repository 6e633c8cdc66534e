/- Contracts of slices.Clone of digits and of slices.Reverse of bytes of layer 4 (cnt), over the translation. -/
import Derived.Test.YtjnabmchejdhpaaFne
namespace Go.Proofs.Ytjnabmchejdhpaa
open Go.RowKit

set_option maxHeartbeats 2000000 in
theorem cnt_Clone (A : Option Addr) (ca : Nat) (a : List Int) (w : World) (hA : RI w w.heap.size A a) (hAn : A = none → ca = 0) (hal : a.length ≤ 1000000000) (hca : a.length ≤ ca) :
    Calls Try.prog 42 #[.slice A a.length ca] w fun e w' => ∃ v, e = .returned v ∧ Own w' w.heap.size v a ∧ Below w.heap.size w w' := by
  obtain ⟨i0, hi0, hz0, hz1, hz2⟩ := info_parts info62
  have HA := Lib.hid hA
  clear hA
  rcases A with _ | ad
  · obtain rfl : a = [] := HA.out.none_nil
    obtain rfl : ca = 0 := hAn rfl
    have q24 : ∀ (w : World) (a : Option Addr) (n c n' c' : Nat), (binOp .eql 24 (.slice a n c) (.slice none n' c')).run Try.prog w = .ok (.bool a.isNone) w := fun w a n c n' c' => Lib.run_eql_slice_nil w _ _ a n c n' c' Try.underlying24
    go_enter Try.func42, Try.ntmps42
    go_wp2
    go_ret
    exact ⟨_, rfl, Own.nil _ _, Below.refl _ _⟩
  · have q24 : ∀ (w : World) (a : Option Addr) (n c n' c' : Nat), (binOp .eql 24 (.slice a n c) (.slice none n' c')).run Try.prog w = .ok (.bool a.isNone) w := fun w a n c n' c' => Lib.run_eql_slice_nil w _ _ a n c n' c' Try.underlying24
    go_enter Try.func42, Try.ntmps42
    go_wp2_with (at_builtin; refine wpList_append_own _ rfl _ _ 24 rfl w.heap.size 62 i0 (.int .u32 0) 1 4 Try.underlying24 hi0 hz0 hz1 hz2 rfl (by decide) _ _ _ rfl (World.ownsRow_made w #[] 0 (Nat.le_refl _) (Nat.zero_le _) rfl) ad a.length ca (a.map (Value.int .u32)) rfl ?qc1 ?qc2 ?qc3 ?qc4 ?qc5 ?qc6 ?_)
    case qc1 => simp
    case qc2 =>
      intro j u hj
      exact Lib.cell?_alloc_some _ (HA.out.src j u hj).1
    case qc3 => intro u hu; obtain ⟨x, _, rfl⟩ := List.mem_map.1 hu; rfl
    case qc4 => unfold maxLen; omega
    case qc5 => omega
    case qc6 => simp
    intro v' w1 hown hgrow hnil
    have HB : Below w.heap.size w w1 := ((Below.refl _ w).alloc (Nat.le_refl _) _).grown hgrow (by simp) (by intro k hk; simp [Value.ownBlock] at hk; omega)
    have HO : Hid (Own w1 w.heap.size v' a) := Lib.hid (by unfold Own; simpa using hown)
    clear hown hgrow hnil
    go_wp2
    go_ret
    exact ⟨v', rfl, HO.out, HB⟩
end Go.Proofs.Ytjnabmchejdhpaa
