/- Contract of scale of layer 4 (cnt), over the translation. -/
import Derived.Test.YtjnabmchejdhpaaFnb
namespace Go.Proofs.Ytjnabmchejdhpaa
open Go.RowKit

theorem scl_step {s t : List Int} {k : Nat} {c n m : Int} (hk : k < s.length) (hkt : k < t.length) (h : val (t.take k) + c * pw k = val (s.take k) * n + m) :
    val ((t.set k ((c + li s k * n) % 4294967296)).take (k + 1)) + (c + li s k * n) / 4294967296 * pw (k + 1) = val (s.take (k + 1)) * n + m := by
  rw [take_set t hkt, val_snoc, take_len (l := t) (i := k) (by omega), val_take_succ hk]
  have e : s.getD k 0 = li s k := rfl
  rw [e]
  have h1 := carry_step (c + li s k * n) k
  rw [Int.mul_add, Int.mul_comm (pw k) c] at h1
  have e3 : (val (s.take k) + pw k * li s k) * n = val (s.take k) * n + pw k * (li s k * n) := by rw [Int.add_mul, Int.mul_assoc]
  rw [e3]
  omega
set_option maxHeartbeats 2000000 in
theorem cnt_scale (B : Nat) (v : Value) (s : List Int) (n m : Int) (w : World) (hO : Own w B v s) (hB : B ≤ w.heap.size) (hs : Dig s) (hsl : s.length ≤ 1000000000)
    (hn0 : 0 ≤ n) (hn1 : n < 4294967296) (hm0 : 0 ≤ m) (hm1 : m < 4294967296) :
    Calls Try.prog 41 #[v, .int .u32 n, .int .u32 m] w fun e w' => ∃ v' s', e = .returned v' ∧ Own w' B v' s' ∧ Dig s' ∧ val s' = val s * n + m ∧ s'.length ≤ s.length + 1 ∧ Below B w w' := by
  obtain ⟨i0, hi0, hz0, hz1, hz2⟩ := info_parts info62
  obtain ⟨A, c0, rfl, hcl, hcm, _, _⟩ := hO.len_cap
  have HO := Lib.hid hO
  have HS := Lib.hid hs
  clear hO hs
  go_enter Try.func41, Try.ntmps41
  go_wp2
  go_loopw [7, 14] (fun c i wr => ∃ (k : Nat) (C : Int) (t : List Int), k ≤ s.length ∧ i = .int .i64 (k : Int) ∧ c = .int .u64 C ∧ 0 ≤ C ∧ C < 4294967296 ∧ t.length = s.length ∧ Hid (Own wr B (.slice A s.length c0) t ∧ Dig t ∧ t.drop k = s.drop k ∧ val (t.take k) + C * pw k = val (s.take k) * n + m) ∧ Below B w wr) (fun _ i _ => s.length - (intOf i).toNat)
  case atStart => exact ⟨0, m, s, Nat.zero_le _, rfl, rfl, hm0, hm1, rfl, Lib.hid ⟨HO.out, HS.out, rfl, by simp [val, pw]⟩, Below.refl _ _⟩
  case round =>
    obtain ⟨k, C, t, hk, rfl, rfl, hC0, hC1, htl, HT, hb⟩ := hrel
    have hBr : B ≤ wr.heap.size := by have := hb.size; omega
    by_cases hlt : k < s.length
    · have hlt' : (k : Int) < (s.length : Int) := by omega
      have ea := dbl_at hlt (by omega) HT.out.2.2.1
      obtain ⟨g, cp, ev, hg1, hg2, e3, hfz, hset⟩ := HT.out.1.at (i := k) (by omega)
      injection ev with ev1 ev2 ev3
      subst ev1 ev3
      clear ev2
      rw [ea] at e3
      have d1 := HS.out _ (li_mem hlt)
      have hp := prod_hi d1.1 d1.2 hn0 hn1
      have HSET := Lib.hid hset
      clear hset ea
      go_wp2
      go_roundw
      case rel => exact ⟨k + 1, _, _, by omega, by go_num, rfl, by omega, by omega, by rw [List.length_set]; exact htl, Lib.hid ⟨HSET.out _, HT.out.2.1.set _ (by omega) (by omega), dbl_keep HT.out.2.2.1, scl_step hlt (by omega) HT.out.2.2.2⟩, hb.setCell (p := ⟨g, k, none⟩) hg1 _⟩
      case measure => simp [intOf]; omega
    · obtain rfl : k = s.length := by omega
      have HV : Hid (val t + C * pw s.length = val s * n + m) := Lib.hid (by
        have h1 := HT.out.2.2.2
        rw [List.take_length, ← htl, List.take_length, htl] at h1; exact h1)
      by_cases hC : C = 0
      · subst hC
        go_wp2
        go_ret
        exact ⟨_, t, rfl, HT.out.1, HT.out.2.1, by have := HV.out; omega, by omega, hb⟩
      · have hC' : 0 < C := by omega
        have hCm : C % 4294967296 = C := Int.emod_eq_of_lt hC0 hC1
        have HT1 : Hid (World.ownsRow wr B 62 1 (.slice A s.length c0) s.length (t.map (Value.int .u32))) := Lib.hid (by have := HT.out.1; unfold Own at this; rw [htl] at this; exact this)
        have hOP : ∀ v' w', World.ownsRow w' B 62 1 v' (s.length + 1) (t.map (Value.int .u32) ++ [.int .u32 C]) → Hid (Own w' B v' (t ++ [C])) := fun v' w' h => Own.push (by rw [htl]; exact h)
        go_wp2_with (at_builtin; refine wpList_append_own _ rfl _ _ 24 rfl B 62 i0 _ 1 4 Try.underlying24 hi0 hz0 hz1 hz2 rfl (by decide) _ _ _ rfl (World.ownsRow.alloc HT1.out _) ⟨wr.heap.size, 0, none⟩ 1 1 [.int .u32 C] rfl rfl (cell_one_new _ _ _) (by simp [Value.oneCell']) (max_ok (by omega)) (by omega) (by simp; omega) ?_; intro v2 w1 hown hgr _; have HP := hOP _ _ hown; have hbw : Below B w w1 := HT.out.1.grow2 hb hBr hgr; clear hown hgr)
        go_ret
        exact ⟨_, t ++ [C], rfl, HP.out, HT.out.2.1.snoc hC0 hC1, by rw [val_snoc, htl, Int.mul_comm]; exact HV.out, by simp; omega, hbw⟩
end Go.Proofs.Ytjnabmchejdhpaa
