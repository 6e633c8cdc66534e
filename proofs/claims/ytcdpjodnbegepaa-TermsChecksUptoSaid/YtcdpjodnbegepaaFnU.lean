/- Contracts of num, name and two, of layer 30 (terms). -/
import Derived.Test.YtcdpjodnbegepaaFnT
namespace Go.Proofs.Ytcdpjodnbegepaa
open Go.RowKit Go.PlainAid

theorem size24 : (Try.prog.info? 24).map (·.size) = some 4 := by kernel_rfl
theorem res_ex {fn : Func} {p : Tmp} (h : fn.results = #[.cell p 24]) (tmps : Array Value) (w : World) (g : Nat) (a b c d : Value) (hp : tmps.getD p undef = .pointer (some ⟨g, 0, none⟩)) (hg : Blk w g 24 #[a, b, c, d]) :
    (results fn tmps).run Try.prog w = .ok (.agg #[a, b, c, d]) w := by
  exact results_cell_row (P := Try.prog) h tmps w g 24 #[a, b, c, d] (0, 0) _ hp hg Try.underlying24 rfl size24
set_option maxHeartbeats 1000000 in
theorem pr_num (k : Int) (w : World) : Calls Try.prog 30 #[.int .i64 k] w fun e w' => e = .returned (.agg #[.int .i64 1, .int .i64 k, .string ⟨#[]⟩, .slice none 0 0]) ∧ Below w.heap.size w w' := by
  have HB : Hid (∀ ob, Below w.heap.size w (w.alloc ob)) := Lib.hid (fun ob => (Below.refl _ _).alloc (Nat.le_refl _) ob)
  go_enter Try.func30, Try.ntmps30
  go_wp2
  exact bodyPost_ret (res_ex rfl _ _ w.heap.size _ _ _ _ rfl (Blk.new _ _ _)) rfl ⟨rfl, HB.out _⟩
set_option maxHeartbeats 1000000 in
theorem pr_name (m : ByteArray) (w : World) : Calls Try.prog 31 #[.string m] w fun e w' => e = .returned (.agg #[.int .i64 3, .int .i64 0, .string m, .slice none 0 0]) ∧ Below w.heap.size w w' := by
  have HB : Hid (∀ ob, Below w.heap.size w (w.alloc ob)) := Lib.hid (fun ob => (Below.refl _ _).alloc (Nat.le_refl _) ob)
  go_enter Try.func31, Try.ntmps31
  go_wp2
  exact bodyPost_ret (res_ex rfl _ _ w.heap.size _ _ _ _ rfl (Blk.new _ _ _)) rfl ⟨rfl, HB.out _⟩
/-- A tree whose Kids are leaves lies where its row lies. -/
theorem rep_leafs {B g f : Nat} {w w' : World} {t : Ex} (h : Rep B w (some ⟨g, f, none⟩) t) (hk : ∀ i, i < t.ks.length → (kd t.ks i).ks = []) (hc : ∀ o, w'.cell? ⟨g, o, none⟩ = w.cell? ⟨g, o, none⟩) : Rep B w' (some ⟨g, f, none⟩) t := by
  by_cases hp : 0 < t.ks.length
  · obtain ⟨b, f', e, hb, hx⟩ := h.out hp
    have e1 : g = b ∧ f = f' := by simpa using e
    obtain ⟨rfl, rfl⟩ := e1
    refine Rep.node hb (fun i hi => ?_)
    obtain ⟨ka, kc, c0, c1, c2, c3, _⟩ := hx i hi
    exact ⟨ka, kc, (hc _).trans c0, (hc _).trans c1, (hc _).trans c2, (hc _).trans c3, Rep.leaf (hk i hi)⟩
  · exact Rep.leaf (List.eq_nil_of_length_eq_zero (by omega))
def TwoT (o : Int) (a b : Ex) (w : World) (e : Ending) (w' : World) : Prop := ∃ A c, e = .returned (.agg #[.int .i64 o, .int .i64 0, .string ⟨#[]⟩, .slice A 2 c]) ∧ Rep w'.heap.size w' A (.mk o 0 ⟨#[]⟩ [a, b]) ∧ Below w.heap.size w w' ∧ ∃ g, A = some ⟨g, 0, none⟩ ∧ w.heap.size ≤ g
set_option maxRecDepth 100000 in
set_option maxHeartbeats 2000000 in
theorem pr_two (o : Int) (a b : Ex) (A B : Option Addr) (ca cb : Nat) (w : World) (hA : Rep w.heap.size w A a) (hB : Rep w.heap.size w B b) :
    Calls Try.prog 32 #[.int .i64 o, exV a A ca, exV b B cb] w (TwoT o a b w) := by
  show Calls Try.prog 32 #[.int .i64 o, .agg #[.int .i64 a.op, .int .i64 a.vr, .string a.nm, .slice A a.ks.length ca], .agg #[.int .i64 b.op, .int .i64 b.vr, .string b.nm, .slice B b.ks.length cb]] w (TwoT o a b w)
  go_enter Try.func32, Try.ntmps32
  go_wp2
  have blk : ∀ (w : World) (g : Nat) (ty : TypeId) (cs : Array Value), w.heap.size = g → Blk (w.alloc (.cells cs ty)) g ty cs := fun w g ty cs e => by rw [← e]; exact Blk.new w ty cs
  refine bodyPost_ret (res_ex rfl _ _ (w.heap.size + 1 + 1) _ _ _ _ rfl ((blk _ _ _ _ (by simp)).alloc _)) rfl ⟨some ⟨w.heap.size + 1 + 1 + 1, 0, none⟩, 2, rfl, ?_, al (al (al (al (Below.refl _ _) _) _) _) _, _, rfl, by omega⟩
  obtain ⟨W, hW⟩ : ∃ W, ((w.alloc (.cells #[.int .i64 a.op, .int .i64 a.vr, .string a.nm, .slice A a.ks.length ca] 24)).alloc (.cells #[.int .i64 b.op, .int .i64 b.vr, .string b.nm, .slice B b.ks.length cb] 24)).alloc (.cells #[.int .i64 o, .int .i64 0, .string ⟨#[]⟩, .slice (some ⟨w.heap.size + 1 + 1 + 1, 0, none⟩) 2 2] 24) = W := ⟨_, rfl⟩
  have hBW : Below w.heap.size w W := by rw [← hW]; exact al (al (al (Below.refl _ _) _) _) _
  have hWs : W.heap.size = w.heap.size + 1 + 1 + 1 := by rw [← hW]; simp
  rw [hW, ← hWs]
  have hk := Blk.new W 24 #[.int .i64 a.op, .int .i64 a.vr, .string a.nm, .slice A a.ks.length ca, .int .i64 b.op, .int .i64 b.vr, .string b.nm, .slice B b.ks.length cb]
  have hb2 : Below W.heap.size W (W.alloc (.cells #[.int .i64 a.op, .int .i64 a.vr, .string a.nm, .slice A a.ks.length ca, .int .i64 b.op, .int .i64 b.vr, .string b.nm, .slice B b.ks.length cb] 24)) := al (Below.refl _ _) _
  refine Rep.node hk.lt (fun i hi => ?_)
  have hi2 : i < 2 := hi
  rcases (by omega : i = 0 ∨ i = 1) with rfl | rfl
  · exact ⟨A, ca, hk.cell 0, hk.cell 1, hk.cell 2, hk.cell 3, (hA.step hBW).step hb2⟩
  · exact ⟨B, cb, hk.cell 4, hk.cell 5, hk.cell 6, hk.cell 7, (hB.step hBW).step hb2⟩
end Go.Proofs.Ytcdpjodnbegepaa
