/- The specification's All, and the law's comparison of nodes; layer 9 (pool). -/
import Derived.Test.YtljclikholchmaaRc
namespace Go.Proofs.Ytljclikholchmaa
open Go.RowKit

/-- The nodes of the first k slots that are taken. -/
def allK (M : List Nd) (T : List Bool) : Nat → List Nd
  | 0 => []
  | k + 1 => allK M T k ++ if T.getD k false then [M.getD k nd0] else []
theorem allK_len (M : List Nd) (T : List Bool) : ∀ k, (allK M T k).length ≤ k
  | 0 => Nat.le_refl _
  | k + 1 => by
    have := allK_len M T k
    show (allK M T k ++ if T.getD k false then [M.getD k nd0] else []).length ≤ k + 1
    rw [List.length_append]
    split <;> simp <;> omega
theorem info4 : (Try.prog.info? 4).map (fun i => (i.zero, i.size, i.bytes)) = some (some (.bool false), 1, 1) := by kernel_rfl
theorem ndCells_one (M : List Nd) : ∀ u ∈ ndCells M, u.oneCell' = true := by
  intro u hu
  unfold ndCells at hu
  rw [List.mem_flatMap] at hu
  obtain ⟨x, _, hx⟩ := hu
  simp [ndRow] at hx
  rcases hx with rfl | rfl | rfl | rfl | rfl <;> rfl
theorem tkC_one (T : List Bool) : ∀ u ∈ tkC T, u.oneCell' = true := by
  intro u hu
  unfold tkC at hu
  rw [List.mem_map] at hu
  obtain ⟨b, _, rfl⟩ := hu
  rfl
theorem inC_one (F : List Int) : ∀ u ∈ inC F, u.oneCell' = true := by
  intro u hu
  unfold inC at hu
  rw [List.mem_map] at hu
  obtain ⟨b, _, rfl⟩ := hu
  rfl
theorem max_fits {n m : Nat} (h : n + m ≤ 3000000) : n + m ≤ maxLen ∧ (n + m) * 40 ≤ 140737488355328 := by
  unfold maxLen; omega
theorem own_less {w : World} {base b2 : Nat} {e : TypeId} {size n : Nat} {v : Value} {xs : List Value} (h : w.ownsRow base e size v n xs) (hb : b2 ≤ base) : w.ownsRow b2 e size v n xs := by
  obtain ⟨h1, h2⟩ := h
  refine ⟨h1, ?_⟩
  rcases h2 with h2 | ⟨g, cap, cur, e, hg, r⟩
  · exact .inl h2
  · exact .inr ⟨g, cap, cur, e, by omega, r⟩
theorem ownN_keep {w w' : World} {B : Nat} {v : Value} {l : List Nd} (h : OwnN w B v l) (hb : Below w.heap.size w w') : OwnN w' B v l := own_keep h hb
section
variable {w w' : World} {A D C : Option Addr} {c d e : Nat} {M : List Nd} {T : List Bool} {F : List Int}
set_option maxRecDepth 100000 in
set_option maxHeartbeats 4000000 in
theorem r_All (room : Int) (h : RPool w w.heap.size A c M D d T C e F) (hl : T.length ≤ 1000000) (hm : M.length = T.length) : Calls Try.prog 18 #[.agg (rpC room A c M.length D d T.length C e F.length)] w fun en w' =>
    ∃ v, en = .returned v ∧ OwnN w' w.heap.size v (allK M T M.length) ∧ Below w.heap.size w w' := by
  obtain ⟨i0, hi0, hz0, hz1, hz2⟩ := info_parts info38
  obtain ⟨W, hW⟩ : ∃ W, w.alloc (.cells (rpC room A c M.length D d T.length C e F.length) 32) = W := ⟨_, rfl⟩
  have hb : Below w.heap.size w W := by rw [← hW]; exact bal _ _
  have hk : Blk W w.heap.size 32 (rpC room A c M.length D d T.length C e F.length) := by rw [← hW]; exact Blk.new _ _ _
  have hws : W.heap.size = w.heap.size + 1 := by rw [← hW]; simp
  have HB := Lib.hid hb
  have HWW := Lib.hid hW
  have HX : Hid (∀ wx, Below W.heap.size W wx → (wx.cell? ⟨w.heap.size, 1, none⟩ = some (.slice A M.length c) ∧ wx.cell? ⟨w.heap.size, 2, none⟩ = some (.slice D T.length d) ∧ w.heap.size < wx.heap.size) ∧ Below w.heap.size w wx ∧ RowG wx wx.heap.size A c (ndCells M) ∧ RowG wx wx.heap.size D d (tkC T)) := Lib.hid (fun wx hx => by
    have k := hk.below hx hk.lt
    exact ⟨⟨k.cell 1, k.cell 2, k.lt⟩, bt hb hx, h.nodes.step (bt hb hx), h.taken.step (bt hb hx)⟩)
  have q1 : W.cell? ⟨w.heap.size, 1, none⟩ = some (.slice A M.length c) := hk.cell 1
  have q2 : W.cell? ⟨w.heap.size, 2, none⟩ = some (.slice D T.length d) := hk.cell 2
  have ql := hk.lt
  have HWS := Lib.hid hws
  clear hws
  have HM := Lib.hid hm
  have HE : Hid (OwnN (W.alloc (.cells #[] 38)) W.heap.size (.slice (some ⟨W.heap.size, 0, none⟩) 0 0) []) := Lib.hid (ownN_empty W)
  have HBE : Hid (Below W.heap.size W (W.alloc (.cells #[] 38))) := Lib.hid (bal _ _)
  unfold rpC at HWW ⊢
  clear h hb hk hW hm
  go_enter Try.func18, Try.ntmps18
  go_upto_region 1 with (go_at_call 999)
  rw [HWW.out]
  go_wp2_with fail
  go_loopw [3, 4] (fun s3 i wr => ∃ (k : Nat) (A3 : Option Addr) (c3 : Nat), k ≤ M.length ∧ i = .int .i64 (k : Int) ∧ s3 = .slice A3 (allK M T k).length c3 ∧ Hid (OwnN wr W.heap.size (.slice A3 (allK M T k).length c3) (allK M T k)) ∧ Hid (Below W.heap.size W wr)) (fun _ i _ => M.length - (intOf i).toNat)
  case atStart => exact ⟨0, _, 0, Nat.zero_le _, rfl, rfl, HE, HBE⟩
  case round =>
    obtain ⟨k, A3, c3, hk, rfl, rfl, HO, HBk⟩ := hrel
    obtain ⟨⟨u1, u2, ul⟩, hbw, hN, hT⟩ := HX.out _ HBk.out
    by_cases hlt : k < M.length
    · have l1 : (k : Int) < (M.length : Int) := by omega
      have l0 : (0 : Int) ≤ (k : Int) := by omega
      have l2 : (k : Int) < (T.length : Int) := by rw [← HM.out]; exact l1
      obtain ⟨b, off, rfl, hb1, hc⟩ := hN.out (by rw [ndCells_len]; omega)
      obtain ⟨b2, off2, rfl, hb2, hc2⟩ := hT.out (by rw [tkC_len, ← HM.out]; omega)
      obtain ⟨n0, n1, n2, n3, n4⟩ := nd_at hlt
      have z0 := hc _ _ n0
      have z1 := hc _ _ n1
      have z2 := hc _ _ n2
      have z3 := hc _ _ n3
      have z4 := hc _ _ n4
      rw [← Nat.add_assoc] at z1 z2 z3 z4
      have z5 := hc2 _ _ (tkC_at (i := k) (by rw [← HM.out]; exact hlt))
      have hs : allK M T (k + 1) = allK M T k ++ if T.getD k false then [M.getD k nd0] else [] := rfl
      have hal := allK_len M T k
      obtain ⟨q, hq⟩ : ∃ q, T.getD k false = q := ⟨_, rfl⟩
      rw [hq] at z5 hs
      obtain ⟨x, hx⟩ : ∃ x, M.getD k nd0 = x := ⟨_, rfl⟩
      rw [hx] at z0 z1 z2 z3 z4 hs
      obtain ⟨x0, x1, x2, x3, x4⟩ := x
      dsimp only at z0 z1 z2 z3 z4
      have HS := Lib.hid hs
      clear hc hc2 n0 n1 n2 n3 n4 hN hT hx hq hs
      have hzr := HBk.out.size
      obtain ⟨L, hL⟩ : ∃ L, allK M T k = L := ⟨_, rfl⟩
      rw [hL] at HO HS hal ⊢
      have HLL := Lib.hid hL
      clear hL
      cases q
      · have X : allK M T (k + 1) = L := by rw [HS.out]; simp
        have XX := Lib.hid X
        clear X
        go_wp2
        go_roundw
        case rel => exact ⟨k + 1, A3, c3, by omega, by go_num, by rw [XX.out], by rw [XX.out]; exact HO, HBk⟩
        case measure => simp [intOf]; try omega
      · have X : allK M T (k + 1) = L ++ [⟨x0, x1, x2, x3, x4⟩] := by rw [HS.out]; simp
        have XX := Lib.hid X
        clear X
        go_wp2_with (at_builtin; refine wpList_app_row rfl _ _ 28 rfl W.heap.size 38 i0 _ 5 40 Try.underlying28 hi0 hz0 hz1 hz2 rfl (by decide) _ _ L.length (ndCells L) rfl (ownN_keep HO.out (bal _ _)) (some ⟨wr.heap.size, 0, none⟩) 1 1 _ (ndCells [⟨x0, x1, x2, x3, x4⟩]) rfl (RowG.made (w := wr) (t := 38) 1) rfl (ndCells_one _) (max_fits (by omega)).1 (max_fits (by omega)).2 (by simp; omega) ?_; intro v4 w4 hO4 hb4; obtain ⟨A4, c4, e4, _⟩ := RowG.own (by decide) hO4; subst e4; have HO4 := Lib.hid hO4; have HB4 := Lib.hid (HBk.out.trans (((bal wr _).mono hzr : Below W.heap.size wr (wr.alloc (.cells (ndCells [⟨x0, x1, x2, x3, x4⟩]).toArray 38))).trans hb4)); clear hO4 hb4)
        go_roundw
        case rel => exact ⟨k + 1, A4, c4, by omega, by go_num, by rw [XX.out]; simp, Lib.hid (by rw [XX.out]; unfold OwnN; have h := HO4.out; rw [← show ndCells (L ++ [⟨x0, x1, x2, x3, x4⟩]) = ndCells L ++ ndCells [⟨x0, x1, x2, x3, x4⟩] from by unfold ndCells; simp] at h; simpa using h), HB4⟩
        case measure => simp [intOf]; try omega
    · have l1 : ¬ (k : Int) < (M.length : Int) := by omega
      obtain rfl : k = M.length := by omega
      go_wp2
      go_ret
      refine ⟨_, rfl, ?_, hbw⟩
      have h := HO.out
      unfold OwnN at h ⊢
      exact own_less h HB.out.size
end
end Go.Proofs.Ytljclikholchmaa
