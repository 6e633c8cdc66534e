/- The Builder's WriteByte, Len and String; layer 7 (ptext). -/
import Derived.Test.YtipapemcedkinaaSb
namespace Go.Proofs.Ytipapemcedkinaa
open Go.Shelf
def lays169_ren : Go.Shelf.Ren := ⟨fun | 169 => 21 | n => n, fun | 70 => 50 | 9 => 9 | 0 => 0 | 72 => 53 | 37 => 51 | 127 => 74 | 3 => 3 | 5 => 5 | n => n, fun | n => n⟩
theorem lays169 : Go.Proofs.Lays.n169 Try.prog lays169_ren := {
  mixed := by kernel_rfl
  f169 := Try.func21.trans (congrArg some (by kernel_rfl))
  t0 := Try.underlying0
  a0 := Try.isAgg0
  z0 := Try.sizeOf0
  v0 := Try.zeroValue0
  t3 := Try.underlying3
  a3 := Try.isAgg3
  z3 := Try.sizeOf3
  v3 := Try.zeroValue3
  t9 := Try.underlying9
  a9 := Try.isAgg9
  z9 := Try.sizeOf9
  v9 := Try.zeroValue9
  t37 := Try.underlying51
  a37 := Try.isAgg51
  z37 := Try.sizeOf51
  v37 := Try.zeroValue51
  t70 := Try.underlying50
  a70 := Try.isAgg50
  z70 := Try.sizeOf50
  v70 := Try.zeroValue50
  t72 := Try.underlying53
  a72 := Try.isAgg53
  z72 := Try.sizeOf53
  v72 := Try.zeroValue53
  t127 := Try.underlying74
  a127 := Try.isAgg74
  z127 := Try.sizeOf74
  v127 := Try.zeroValue74 }
theorem sh_Builder_Extra_169 : Builder.Extra Try.prog lays169_ren where
  sizeBuilder := by kernel_rfl
  liesBuilder := by kernel_rfl
  t5 := Try.underlying5
  a5 := Try.isAgg5
  z5 := Try.sizeOf5
  v5 := Try.zeroValue5
  infoByte := by kernel_rfl
  cellsByte := by kernel_rfl
  sizeByte := by kernel_rfl
  neB5 := by decide
open Go.RowKit in
theorem sh_Builder_String_any (B b : Nat) (l : List UInt8) (w : World) (h : Lib.IsBuilder 53 5 B b (Lib.byteCells l) w) (hBw : B ≤ w.heap.size) :
    Calls Try.prog 21 #[.pointer (some ⟨b, 0, none⟩)] w fun e w' => e = .returned (.string ⟨l.toArray⟩) ∧ Below B w w' := Any.Builder_String_any lays169 sh_Builder_Extra_169 B b l w h hBw

open Go.RowKit
set_option maxRecDepth 100000 in
theorem b_Len (B b : Nat) (bs : List Value) (w : World) (h : Bd B b bs w) : Calls Try.prog 20 #[.pointer (some ⟨b, 0, none⟩)] w fun e w' => e = .returned (.int .i64 (bs.length : Int)) ∧ w' = w := by
  obtain ⟨p, v, hbk, hown⟩ : ∃ p v, w.heap[b]? = some (.cells #[p, v] 53 (0, 0)) ∧ w.ownsRow B 5 1 v bs.length bs := by
    rcases h with ⟨_, v, hk, ho, _⟩ | ⟨_, v, hk, ho, _⟩ <;> exact ⟨_, v, hk, ho⟩
  obtain ⟨A, c, rfl⟩ := owns_slice hown
  have c1 : w.cell? ⟨b, 1, none⟩ = some (.slice A bs.length c) := by rw [Lib.cell_of_heap hbk]; rfl
  clear hown hbk h
  go_enter Try.func20, Try.ntmps20
  go_wp2
  go_ret
  exact ⟨rfl, rfl⟩
set_option maxRecDepth 100000 in
set_option maxHeartbeats 2000000 in
theorem b_Byte (B b : Nat) (bs : List Value) (x : Int) (w : World) (h : Bd B b bs w) (hlen : bs.length ≤ 1000000000) (hBw : B ≤ w.heap.size) :
    Calls Try.prog 36 #[.pointer (some ⟨b, 0, none⟩), .int .u8 x] w fun e w' => e = .returned .nilIface ∧ Bd B b (bs ++ [.int .u8 x]) w' ∧ Below B w w' ∧ Keep w w' := by
  obtain ⟨i0, hi, hz0, hz1, hz2⟩ := info_parts info5
  have HC := Lib.hid (b_check B b bs w h)
  have HBT : Hid (∃ cs, w.heap[b]? = some (.cells cs 53 (0, 0))) := Lib.hid (by rcases h with ⟨_, v, hk, _⟩ | ⟨_, v, hk, _⟩ <;> exact ⟨_, hk⟩)
  clear h
  go_enter Try.func36, Try.ntmps36
  go_upto_region 2 with (go_at_call 44; (with_reducible refine HC.out.mono ?_); rintro e w1 ⟨rfl, h1, hb1, hkp1⟩)
  obtain ⟨hB, v, hbk, hown, hne⟩ := h1
  have hs1 := hb1.size
  have HB1 := Lib.hid hb1
  have HKP1 := Lib.hid hkp1
  have HK1 := Lib.hid hbk
  have HO1 := Lib.hid hown
  have HN1 := Lib.hid hne
  have c1 : w1.cell? ⟨b, 1, none⟩ = some v := by rw [Lib.cell_of_heap hbk]; rfl
  have hlt : b < w1.heap.size := (Array.getElem?_eq_some_iff.1 hbk).1
  obtain ⟨A, c, rfl⟩ := owns_slice hown
  have HAL : Hid (Below w1.heap.size w1 (w1.alloc (.cells #[.int .u8 x] 5))) := Lib.hid (balw _ _)
  have HCX : Hid (∀ j u, [Value.int .u8 x][j]? = some u → (w1.alloc (.cells #[.int .u8 x] 5)).cell? ((⟨w1.heap.size, 0, none⟩ : Addr).add j) = some u) := Lib.hid (fun j u hj => by rw [adr_add, Nat.zero_add, (Blk.new w1 5 #[.int .u8 x]).cell j]; simpa using hj)
  have HOW : Hid ((w1.alloc (.cells #[.int .u8 x] 5)).ownsRow B 5 1 (.slice A bs.length c) bs.length bs) := Lib.hid (own_keepG HO1.out HAL.out)
  have hsz : (w1.alloc (.cells #[.int .u8 x] 5)).heap.size = w1.heap.size + 1 := by simp
  clear hb1 hbk hown hne hkp1
  go_upto_region 3 with (at_builtin; refine wpList_append_own_at _ rfl (.tmp 11) (.tmp 13) 51 rfl B 5 i0 _ 1 1 Try.underlying51 hi hz0 hz1 hz2 rfl (by decide) (.slice A bs.length c) bs.length bs rfl HOW.out ⟨w1.heap.size, 0, none⟩ 1 1 [.int .u8 x] rfl rfl HCX.out (by simp [Value.oneCell']) (by unfold maxLen; omega) (by omega) (by simp; omega) ?_)
  intro v2 w2 hown2 hgrow _ _
  have hb2 : w2.heap[b]? = some (.cells #[.pointer (some ⟨b, 0, none⟩), .slice A bs.length c] 53 (0, 0)) := by
    rw [hgrow.block b (by omega) (fun e => HN1.out e.symm), HAL.out.block b hlt]
    exact HK1.out
  have HG : Hid (Below B w w2) := Lib.hid ((HB1.out.trans (HAL.out.mono (by omega))).grown hgrow (by omega) (fun k hk => (HO1.out.lt k hk).1))
  have HO2 := Lib.hid hown2
  have HK2 := Lib.hid hb2
  have d1 : w2.cell? ⟨b, 1, none⟩ = some (.slice A bs.length c) := by rw [Lib.cell_of_heap hb2]; rfl
  have f1 : w2.frozen? ⟨b, 1, none⟩ = false := Lib.frozen_of_heap hb2 1
  obtain ⟨A2, c2, rfl⟩ := owns_slice hown2
  have HF : Hid (Bd B b (bs ++ [.int .u8 x]) (w2.setCell ⟨b, 1, none⟩ (.slice A2 (bs.length + 1) c2))) := Lib.hid (.inr (Lib.BuilderAt.put (T := 53) (e := 5) hB hb2 (bs' := bs ++ [.int .u8 x]) (by simpa using hown2) (by decide)))
  have HKP : Hid (Keep w (w2.setCell ⟨b, 1, none⟩ (.slice A2 (bs.length + 1) c2))) := Lib.hid (fun k cs t fr hk h51 h5 => by
    have hkb : b ≠ k := by
      intro e
      obtain ⟨cs0, h0⟩ := HBT.out
      rw [e, hk] at h0
      injection h0 with h0
      injection h0 with _ h0 _
      exact h51 h0
    have h1 : w1.heap[k]? = some (.cells cs t fr) := (HKP1.out k (Ne.symm hkb)).trans hk
    have hk1 : k < w1.heap.size := (Array.getElem?_eq_some_iff.1 h1).1
    have hne2 : some k ≠ (Value.slice A bs.length c).ownBlock := by
      intro e
      rcases HO1.out.2 with ⟨hv, _⟩ | ⟨g, cap, cur, hv, _, hg, _⟩
      · rw [hv] at e; simp [Value.ownBlock] at e
      · rw [hv] at e
        simp [Value.ownBlock] at e
        rw [← e, h1] at hg
        injection hg with hg
        injection hg with _ hg _
        exact h5 hg
    have h2 := hgrow.block k (by omega) hne2
    rw [HAL.out.block k hk1] at h2
    rw [← h1, ← h2]
    simp [World.setCell, Array.getElem?_modify, hkb])
  have HE : Hid (Below B w (w2.setCell ⟨b, 1, none⟩ (.slice A2 (bs.length + 1) c2))) := Lib.hid (HG.out.setCell (p := ⟨b, 1, none⟩) hB _)
  clear hown2 hgrow hb2 HOW HCX HAL
  go_wp2
  go_ret
  exact ⟨rfl, HF.out, HE.out, HKP.out⟩
end Go.Proofs.Ytipapemcedkinaa
