/- The law's examples; layer 28 (events). -/
import Derived.Test.YtfppplalgdopjaaDoorEb
import Derived.Test.YtfppplalgdopjaaDoorN6
namespace Go.Proofs.YtfppplalgdopjaaDoor
open Go.RowKit

theorem digs_one (n : Nat) (h : n < 10) : digs n = [48 + (n : Int)] := by rw [digs, dif_pos h]
theorem ns_one (n : Nat) (h : n < 10) : ns (n : Int) = strOfNums [48 + (n : Int)] := by
  unfold ns textF
  rw [if_neg (by omega), show (n : Int).natAbs = n by omega, digs_one n h]
theorem ns1 : ns 1 = ⟨#[49]⟩ := ns_one 1 (by decide)
theorem ns3 : ns 3 = ⟨#[51]⟩ := ns_one 3 (by decide)
theorem ns7 : ns 7 = ⟨#[55]⟩ := ns_one 7 (by decide)
def sTurn : ByteArray := ⟨#[116, 117, 114, 110, 32, 55, 10]⟩
def sTwo : List UInt8 := [115, 119, 97, 112, 32, 51, 32, 49, 10, 99, 111, 108, 108, 101, 99, 116, 32, 49, 10]
theorem right_two : rightE 2 [⟨1, 2, 1⟩] = 2 := by decide
theorem text_two : textR [⟨3, 2, 1⟩, ⟨1, 1, 0⟩] = (sTwo, 0) := by
  have t1 : tx ⟨3, 2, 1⟩ = [115, 119, 97, 112, 32, 51, 32, 49, 10] := by unfold tx txA txB; dsimp only; rw [ns3, ns1]; rfl
  have t2 : tx ⟨1, 1, 0⟩ = [99, 111, 108, 108, 101, 99, 116, 32, 49, 10] := by unfold tx txA; dsimp only; rw [ns1]; rfl
  have f1 : flT ⟨3, 2, 1⟩ = 0 := by decide
  have f2 : flT ⟨1, 1, 0⟩ = 0 := by decide
  unfold textR
  rw [if_neg (by decide)]
  unfold textG
  rw [if_pos f1]
  unfold textG
  rw [if_pos f2, t1, t2]
  rfl
theorem text_turn : textR [⟨7, 3, 0⟩] = (sTurn.data.toList, 0) := by
  have t1 : tx ⟨7, 3, 0⟩ = [116, 117, 114, 110, 32, 55, 10] := by unfold tx txA; dsimp only; rw [ns7]; rfl
  have f1 : flT ⟨7, 3, 0⟩ = 0 := by decide
  unfold textR
  rw [if_neg (by decide)]
  unfold textG
  rw [if_pos f1, t1]
  rfl
theorem ix_turn : ixB sTurn = 6 := by decide
theorem line_turn : lineR sTurn = sTurn := by unfold lineR; rw [ix_turn]; rfl
theorem cut_turn : cutR sTurn = ⟨#[]⟩ := by unfold cutR; rw [ix_turn]; rfl
theorem fields_turn : Lib.fields sTurn.data.toList = [[116, 117, 114, 110], [55]] := by decide
theorem parse7 : parseF ⟨#[55]⟩ 1 9223372036854775807 = (7, 0) := by
  have h := form_text 7
  have h1 : formF ⟨#[55]⟩ := by rw [← ns7]; exact h.1
  have h2 : valS ⟨#[55]⟩ = 7 := by rw [← ns7]; exact h.2
  rw [parse_in h1 (by rw [h2]; decide), h2]
theorem parse0 : parseF ⟨#[]⟩ 0 9223372036854775807 = (0, 3) := by
  refine parse_no ?_
  rintro (⟨⟨h, _⟩, _⟩ | ⟨_, _, h, _⟩)
  · exact absurd h (by decide)
  · exact absurd h (by decide)
theorem pt_turn0 : pt sTurn 0 = ⟨#[116, 117, 114, 110]⟩ := by unfold pt; rw [fields_turn]; rfl
theorem pt_turn1 : pt sTurn 1 = ⟨#[55]⟩ := by unfold pt; rw [fields_turn]; rfl
theorem pt_turn2 : pt sTurn 2 = ⟨#[]⟩ := by unfold pt; rw [fields_turn]; rfl
theorem kd_turn : kdF ⟨#[116, 117, 114, 110]⟩ 3 = 3 := by
  rw [kdF, if_pos (show eqS (wd 2) ⟨#[116, 117, 114, 110]⟩ = true from by unfold eqS; exact beq_self_eq_true _)]
  rfl
theorem read_turn : readE sTurn = ⟨7, 3, 0⟩ := by
  unfold readE
  rw [pt_turn0, pt_turn1, pt_turn2, parse7, parse0, kd_turn]
theorem ascii_turn : ∀ (j : Nat) (b : UInt8), sTurn.data.toList[j]? = some b → b.toNat < 128 := by
  intro j b h
  have hm := List.mem_of_getElem? h
  have : ∀ b, b ∈ sTurn.data.toList → b.toNat < 128 := by decide
  exact this b hm
def rsT (k : Nat) : ByteArray := if k = 0 then sTurn else ⟨#[]⟩
theorem parse_turn (w : World) (hG : Gl w) : Calls Tryd.prog 14 #[.string sTurn] w fun e w' => ∃ A c, e = .returned (.tuple #[.slice A 1 c, .int .i64 0]) ∧ RowG w' w'.heap.size A c (evC [⟨7, 3, 0⟩]) ∧ Below w.heap.size w w' := by
  refine e_Parse (N := 1) sTurn w hG rsT (fun _ => ⟨7, 3, 0⟩) rfl ?_ rfl ?_ (by decide) (by decide) ?_ ?_
  · intro k hk
    obtain rfl : k = 0 := by omega
    exact ⟨by decide, by decide, cut_turn.symm, by rw [show rsT 0 = sTurn from rfl, ix_turn]; decide⟩
  · intro k hk wx hb
    obtain rfl : k = 0 := by omega
    rw [show rsT 0 = sTurn from rfl, line_turn]
    have h := e_read sTurn wx ⟨hG.below hb, var?_below hb gTab hG.lt hG.tab, Nat.lt_of_lt_of_le hG.lt hb.size⟩ (by decide) (by
      intro j hj
      rcases j with _ | _ | _ | j
      · rw [pt_turn0]; decide
      · rw [pt_turn1]; decide
      · rw [pt_turn2]; decide
      · omega) (by rw [fields_turn]; decide) ascii_turn
    rw [read_turn] at h
    exact h
  · intro k _
    exact ⟨by decide, by decide, by decide, by decide⟩
  · exact text_turn
theorem text_lives (w : World) (hG : Gl w) (A : Option Addr) (c : Nat) (hR : RowG w w.heap.size A c (evC [⟨3, 2, 1⟩, ⟨1, 1, 0⟩])) : Calls Tryd.prog 8 #[.slice A 2 c] w fun e w' => e = .returned (.tuple #[.string ⟨sTwo.toArray⟩, .int .i64 0]) ∧ Below w.heap.size w w' := by
  have h := e_Text [⟨3, 2, 1⟩, ⟨1, 1, 0⟩] A c w hG hR (by
    intro x hx
    simp at hx
    rcases hx with rfl | rfl <;> exact ⟨by decide, by decide, by decide, by decide⟩) (by decide)
  rw [text_two] at h
  exact h
theorem Gl.step {w w' : World} (hG : Gl w) (hb : Below w.heap.size w w') : Gl w' := ⟨hG.below hb, var?_below hb gTab hG.lt hG.tab, Nat.lt_of_lt_of_le hG.lt hb.size⟩
set_option maxRecDepth 100000 in
set_option maxHeartbeats 4000000 in
theorem law_lives (w : World) (hG : Gl w) : Calls Tryd.prog 7 #[] w fun e w' => e = .returned (.bool true) ∧ Below w.heap.size w w' := by
  obtain ⟨W1, hW1⟩ : ∃ W1, w.alloc (.cells #[.int .i64 3, .int .i64 2, .int .i64 1, .int .i64 1, .int .i64 1, .int .i64 0] 47) = W1 := ⟨_, rfl⟩
  have hb1 : Below w.heap.size w W1 := by rw [← hW1]; exact below_al _
  have hR1 : RowG W1 W1.heap.size (some ⟨w.heap.size, 0, none⟩) 2 (evC [⟨3, 2, 1⟩, ⟨1, 1, 0⟩]) := by
    rw [← hW1]
    exact RowG.made (w := w) (t := 47) (cs := evC [⟨3, 2, 1⟩, ⟨1, 1, 0⟩]) 2
  have HT := Lib.hid (text_lives W1 (hG.step hb1) _ _ hR1)
  have HG := Lib.hid hG
  have HB1 := Lib.hid hb1
  have HP : Hid (∀ wx, Below w.heap.size w wx → Calls Tryd.prog 14 #[.string ⟨#[116, 117, 114, 110, 32, 55, 10]⟩] wx fun e w' => ∃ A c, e = .returned (.tuple #[.slice A 1 c, .int .i64 0]) ∧ RowG w' w'.heap.size A c (evC [⟨7, 3, 0⟩]) ∧ Below wx.heap.size wx w') := Lib.hid (fun wx hb => parse_turn wx (hG.step hb))
  have HRI : Hid (∀ wx wy, wy = wx.alloc (.cells #[.int .i64 1, .int .i64 2, .int .i64 1] 47) → Calls Tryd.prog 10 #[.int .i64 2, .slice (some ⟨wx.heap.size, 0, none⟩) 1 1] wy fun e w' => e = .returned (.int .i64 2) ∧ Below wx.heap.size wx w') := Lib.hid (fun wx wy h => by
    subst h
    have h1 := e_Right 2 [⟨1, 2, 1⟩] (some ⟨wx.heap.size, 0, none⟩) 1 (wx.alloc (.cells #[.int .i64 1, .int .i64 2, .int .i64 1] 47)) (RowG.made (w := wx) (t := 47) (cs := evC [⟨1, 2, 1⟩]) 1) (by decide)
    rw [right_two] at h1
    exact h1.mono (fun e w' ⟨h2, h3⟩ => ⟨h2, (below_al _).trans (h3.mono (by simp))⟩))
  have HS : Hid (sTwo.toArray = #[115, 119, 97, 112, 32, 51, 32, 49, 10, 99, 111, 108, 108, 101, 99, 116, 32, 49, 10]) := Lib.hid rfl
  rw [HS.out] at HT
  clear hG hb1 hR1
  go_enter Tryd.func7, Tryd.ntmps7
  go_upto_region 3 with (first
    | (go_at_call 14; have _ := HB2; (with_reducible refine (HP.out _ HB2.out).mono ?_); rintro e w3 ⟨A3, c3, rfl, hr3, hb3⟩; have HR3 := Lib.hid hr3; have HB3 := Lib.hid (HB2.out.trans (hb3.mono HB2.out.size)); clear hb3 hr3)
    | (go_at_call 8; (with_reducible refine HT.out.mono ?_); rintro e w2 ⟨rfl, hb2⟩; have HB2 := Lib.hid (HB1.out.trans (hb2.mono HB1.out.size)); clear hb2))
  obtain ⟨b, off, rfl, hbl, hc⟩ := HR3.out.out (by decide)
  have y0 : w3.cell? ⟨b, off, none⟩ = some (.int .i64 7) := hc 0 _ rfl
  have y1 : w3.cell? ⟨b, off + 1, none⟩ = some (.int .i64 3) := hc 1 _ rfl
  have y2 : w3.cell? ⟨b, off + 2, none⟩ = some (.int .i64 0) := hc 2 _ rfl
  clear hc
  go_wp2_with (go_at_call 10; (with_reducible refine (HRI.out w3 _ rfl).mono ?_); rintro e w4 ⟨rfl, hb4⟩; have HB4 := Lib.hid (HB3.out.trans (hb4.mono HB3.out.size)); clear hb4)
  go_ret
  exact ⟨rfl, HB4.out⟩
end Go.Proofs.YtfppplalgdopjaaDoor
