/- The examples of lives, evaluated; contracts of its calls; layer 30 (terms). -/
import Derived.Test.YtcdpjodnbegepaaFnU
namespace Go.Proofs.Ytcdpjodnbegepaa
open Go.RowKit Go.PlainAid

def xs : ByteArray := ⟨#[120]⟩
def tX : Ex := .mk 3 0 ⟨#[120]⟩ []
def tN (k : Int) : Ex := .mk 1 k ⟨#[]⟩ []
def tLS : Ex := .mk 15 0 ⟨#[]⟩ [tX, tN 5]
def vsx : List Vr := [⟨⟨#[120]⟩, false, 0, 3⟩]
theorem hT1 : typS vsx false (.mk 14 0 ⟨#[]⟩ [tX, tN 1]) = (⟨false, 1, 4⟩, 0) := by kernel_rfl
theorem hT2 : typS vsx false (.mk 10 0 ⟨#[]⟩ [tX, tN 3]) = (⟨true, 0, 0⟩, 0) := by kernel_rfl
theorem hT3 : typS vsx false (.mk 17 0 ⟨#[]⟩ [tX, tN 0]) = (⟨false, 0, 0⟩, 2) := by kernel_rfl
theorem hT4 : typS vsx false (.mk 6 0 ⟨#[]⟩ [tX, .mk 2 1 ⟨#[]⟩ []]) = (⟨false, 0, 0⟩, 13) := by kernel_rfl
theorem hT5 : typS vsx false (.mk 4 0 ⟨#[120]⟩ []) = (⟨false, 0, 0⟩, 24) := by kernel_rfl
theorem hE1 : evS vsx tLS [2] [] = (-3, true) := by kernel_rfl
theorem hE2 : evS vsx (.mk 17 0 ⟨#[]⟩ [tLS, tN 4]) [2] [] = (1, true) := by kernel_rfl
def vB (h : Nat) (w : World) : Prop := Blk w h 57 #[.string ⟨#[120]⟩, .bool false, .int .i64 0, .int .i64 3]
theorem vB.vars {h : Nat} {w : World} (hv : vB h w) : Vars w.heap.size w (some ⟨h, 0, none⟩) vsx := fun _ => ⟨h, 0, rfl, Blk.lt hv, fun i hi => by
  have hi1 : i < 1 := hi
  obtain rfl : i = 0 := by omega
  exact ⟨Blk.cell hv 0, Blk.cell hv 1, Blk.cell hv 2, Blk.cell hv 3⟩⟩
theorem vsx_nm (i : Nat) (h : i < vsx.length) : (va vsx i).nm.size ≤ maxLen := by
  have hi1 : i < 1 := h
  obtain rfl : i = 0 := by omega
  show (1 : Nat) ≤ maxLen
  unfold maxLen; omega
theorem lv_Type (h : Nat) (T : Ex) (A : Option Addr) (c : Nat) (w : World) (hs : T.sz ≤ 100000000) (hv : vB h w) (hR : Rep w.heap.size w A T) : Calls Try.prog 20 #[.slice (some ⟨h, 0, none⟩) 1 1, exV T A c, .bool false] w (TyE (typS vsx false T) w) :=
  pr_Type vsx (some ⟨h, 0, none⟩) 1 T A c false w hv.vars (by decide) vsx_nm hR hs
theorem lv_T1 (h : Nat) (A : Option Addr) (c : Nat) (w : World) (hv : vB h w) (hR : Rep w.heap.size w A (.mk 14 0 ⟨#[]⟩ [tX, tN 1])) : Calls Try.prog 20 #[.slice (some ⟨h, 0, none⟩) 1 1, .agg #[.int .i64 14, .int .i64 0, .string ⟨#[]⟩, .slice A 2 c], .bool false] w (TyE (⟨false, 1, 4⟩, 0) w) := by
  rw [← hT1]; exact lv_Type h _ A c w (by decide) hv hR
theorem lv_T2 (h : Nat) (A : Option Addr) (c : Nat) (w : World) (hv : vB h w) (hR : Rep w.heap.size w A (.mk 10 0 ⟨#[]⟩ [tX, tN 3])) : Calls Try.prog 20 #[.slice (some ⟨h, 0, none⟩) 1 1, .agg #[.int .i64 10, .int .i64 0, .string ⟨#[]⟩, .slice A 2 c], .bool false] w (TyE (⟨true, 0, 0⟩, 0) w) := by
  rw [← hT2]; exact lv_Type h _ A c w (by decide) hv hR
theorem lv_T3 (h : Nat) (A : Option Addr) (c : Nat) (w : World) (hv : vB h w) (hR : Rep w.heap.size w A (.mk 17 0 ⟨#[]⟩ [tX, tN 0])) : Calls Try.prog 20 #[.slice (some ⟨h, 0, none⟩) 1 1, .agg #[.int .i64 17, .int .i64 0, .string ⟨#[]⟩, .slice A 2 c], .bool false] w (TyE (⟨false, 0, 0⟩, 2) w) := by
  rw [← hT3]; exact lv_Type h _ A c w (by decide) hv hR
theorem lv_T4 (h : Nat) (A : Option Addr) (c : Nat) (w : World) (hv : vB h w) (hR : Rep w.heap.size w A (.mk 6 0 ⟨#[]⟩ [tX, .mk 2 1 ⟨#[]⟩ []])) : Calls Try.prog 20 #[.slice (some ⟨h, 0, none⟩) 1 1, .agg #[.int .i64 6, .int .i64 0, .string ⟨#[]⟩, .slice A 2 c], .bool false] w (TyE (⟨false, 0, 0⟩, 13) w) := by
  rw [← hT4]; exact lv_Type h _ A c w (by decide) hv hR
theorem lv_T5 (h : Nat) (w : World) (hv : vB h w) : Calls Try.prog 20 #[.slice (some ⟨h, 0, none⟩) 1 1, .agg #[.int .i64 4, .int .i64 0, .string ⟨#[120]⟩, .slice none 0 0], .bool false] w (TyE (⟨false, 0, 0⟩, 24) w) := by
  rw [← hT5]; exact lv_Type h _ none 0 w (by decide) hv (Rep.leaf rfl)
theorem li_nil (i : Nat) : I64 (li [] i) := by unfold li I64; simp
theorem li_two (i : Nat) : I64 (li [2] i) := by
  unfold li I64
  rcases i with _ | i <;> simp
theorem lv_Eval (h g : Nat) (T : Ex) (A : Option Addr) (c : Nat) (w : World) (hs : T.sz ≤ 100000000) (hv : vB h w) (hg : Blk w g 3 #[.int .i64 2]) (hR : Rep w.heap.size w A T) : Calls Try.prog 22 #[.slice (some ⟨h, 0, none⟩) 1 1, exV T A c, .slice (some ⟨g, 0, none⟩) 1 1, .slice none 0 0] w fun e w' => e = .returned (.tuple #[.int .i64 (evS vsx T [2] []).1, .bool (evS vsx T [2] []).2]) ∧ Below w.heap.size w w' :=
  pr_Eval vsx (some ⟨h, 0, none⟩) 1 T A c [2] [] (some ⟨g, 0, none⟩) none 1 0 w hv.vars (by decide) vsx_nm hR hs (RI.blk (l := [2]) hg hg.lt) RI.nil li_two li_nil
theorem lv_E1 (h g : Nat) (A : Option Addr) (c : Nat) (w : World) (hv : vB h w) (hg : Blk w g 3 #[.int .i64 2]) (hR : Rep w.heap.size w A tLS) : Calls Try.prog 22 #[.slice (some ⟨h, 0, none⟩) 1 1, .agg #[.int .i64 15, .int .i64 0, .string ⟨#[]⟩, .slice A 2 c], .slice (some ⟨g, 0, none⟩) 1 1, .slice none 0 0] w fun e w' => e = .returned (.tuple #[.int .i64 (-3), .bool true]) ∧ Below w.heap.size w w' := by
  have := lv_Eval h g tLS A c w (by decide) hv hg hR
  rw [hE1] at this
  exact this
theorem lv_E2 (h g : Nat) (A : Option Addr) (c : Nat) (w : World) (hv : vB h w) (hg : Blk w g 3 #[.int .i64 2]) (hR : Rep w.heap.size w A (.mk 17 0 ⟨#[]⟩ [tLS, tN 4])) : Calls Try.prog 22 #[.slice (some ⟨h, 0, none⟩) 1 1, .agg #[.int .i64 17, .int .i64 0, .string ⟨#[]⟩, .slice A 2 c], .slice (some ⟨g, 0, none⟩) 1 1, .slice none 0 0] w fun e w' => e = .returned (.tuple #[.int .i64 1, .bool true]) ∧ Below w.heap.size w w' := by
  have := lv_Eval h g _ A c w (by decide) hv hg hR
  rw [hE2] at this
  exact this
theorem lv_two (o : Int) (k : Int) (w : World) : Calls Try.prog 32 #[.int .i64 o, .agg #[.int .i64 3, .int .i64 0, .string ⟨#[120]⟩, .slice none 0 0], .agg #[.int .i64 1, .int .i64 k, .string ⟨#[]⟩, .slice none 0 0]] w (TwoT o tX (tN k) w) := pr_two o tX (tN k) none none 0 0 w (Rep.leaf rfl) (Rep.leaf rfl)
theorem lv_two2 (w : World) : Calls Try.prog 32 #[.int .i64 6, .agg #[.int .i64 3, .int .i64 0, .string ⟨#[120]⟩, .slice none 0 0], .agg #[.int .i64 2, .int .i64 1, .string ⟨#[]⟩, .slice none 0 0]] w (TwoT 6 tX (.mk 2 1 ⟨#[]⟩ []) w) := pr_two 6 tX (.mk 2 1 ⟨#[]⟩ []) none none 0 0 w (Rep.leaf rfl) (Rep.leaf rfl)
theorem lv_two3 (A : Option Addr) (c : Nat) (w : World) (hR : Rep w.heap.size w A tLS) : Calls Try.prog 32 #[.int .i64 17, .agg #[.int .i64 15, .int .i64 0, .string ⟨#[]⟩, .slice A 2 c], .agg #[.int .i64 1, .int .i64 4, .string ⟨#[]⟩, .slice none 0 0]] w (TwoT 17 tLS (tN 4) w) := pr_two 17 tLS (tN 4) A none c 0 w hR (Rep.leaf rfl)
end Go.Proofs.Ytcdpjodnbegepaa
