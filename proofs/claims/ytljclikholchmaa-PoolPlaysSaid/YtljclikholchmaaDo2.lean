/- Every step of the law; layer 9 (pool). -/
import Derived.Test.YtljclikholchmaaRj
import Derived.Test.YtljclikholchmaaDn
namespace Go.Proofs.Ytljclikholchmaa
open Go.RowKit

section
variable {w w' : World} {base bp : Nat} {room : Int} {F X : Nat → Prop} {A D C : Option Addr} {c d e : Nat} {N M : List Nd} {T : List Bool} {fr : List Int}
theorem do_take_new (hp : Pl w base bp room F N []) (hXl : ∀ b, X b → b < w.heap.size) (hR : RPool w w.heap.size A c M D d T C e []) (hq : Own3 (Out F X w.heap.size) A D C) (hs : Sim N M T []) (k : Nat) (hN : N.length ≤ k) (hk : k ≤ 1000) (q : Nat) (hq255 : q ≤ 255) (id n0 n1 n2 n3 n4 : Int)
    (h2 : ¬ (q : Int) % 4 = 2) (h3 : ¬ (q : Int) % 4 = 3) (hr : ¬ room ≤ (cntT T : Nat)) : Calls Try.prog 10 #[.pointer (some ⟨bp, 0, none⟩), .agg #[.int .i64 room, .slice A M.length c, .slice D T.length d, .slice C ([] : List Int).length e], .agg #[.int .u8 (q : Int), .int .i64 id, .int .i64 n0, .int .i64 n1, .int .i64 n2, .int .i64 n3, .int .i64 n4]] w (StepS w base bp room F X (k + 1)) := by
  have hlt := hs.lt
  have hlm := hs.lm
  have hcnt := hs.cnt
  have hG : ∀ wx, Below w.heap.size w wx → Calls Try.prog 24 #[.agg #[.int .i64 room, .slice A M.length c, .slice D T.length d, .slice C ([] : List Int).length e], .agg #[.int .i64 n0, .int .i64 n1, .int .i64 n2, .int .i64 n3, .int .i64 n4]] wx (GivR3 wx (Out F X w.heap.size) room (M ++ [⟨(N.length : Int) + 1, n1, n2, n3, n4⟩]) (T ++ [true]) [] ((N.length : Int) + 1) 0) :=
    fun wx hb => by
      rw [hlm, hlt]
      exact r_Take_new room n0 n1 n2 n3 n4 N.length (hR.step hb) hq (fun b h => Nat.lt_of_lt_of_le h.2.1 hb.size) (Nat.le_refl _) hlt hlm (by omega) hr
  exact (do_01 hp hXl q hq255 h2 h3 id n0 n1 n2 n3 n4 ((N.length : Int) + 1) 0 hG (fun wx hb => pl_Take_new (hp.below hb) (by simp at hcnt; omega) ⟨n0, n1, n2, n3, n4⟩)).mono fun en w' hd => ⟨_, _, _, _, hd, hs.push rfl, by rw [List.length_append]; simp; omega⟩
theorem do_all (hp : Pl w base bp room F N fr) (hXl : ∀ b, X b → b < w.heap.size) (hR : RPool w w.heap.size A c M D d T C e fr) (hq : Own3 (Out F X w.heap.size) A D C) (hs : Sim N M T fr) (k : Nat) (hN : N.length ≤ k) (hk : k ≤ 1000) (q : Nat) (hq255 : q ≤ 255) (id n0 n1 n2 n3 n4 : Int) (hid : (Lit.int .i64 id).wf = true) (hn0 : (Lit.int .i64 n0).wf = true) :
    Calls Try.prog 10 #[.pointer (some ⟨bp, 0, none⟩), .agg #[.int .i64 room, .slice A M.length c, .slice D T.length d, .slice C fr.length e], .agg #[.int .u8 (q : Int), .int .i64 id, .int .i64 n0, .int .i64 n1, .int .i64 n2, .int .i64 n3, .int .i64 n4]] w (StepS w base bp room F X (k + 1)) := by
  by_cases h2 : (q : Int) % 4 = 2
  · exact do_give hp hXl hR hq hs k hN hk q hq255 id n0 n1 n2 n3 n4 hid h2
  · by_cases h3 : (q : Int) % 4 = 3
    · exact do_set hp hXl hR hq hs k hN hk q hq255 id n0 n1 n2 n3 n4 hn0 h3
    · by_cases hr : room ≤ (cntT T : Nat)
      · exact do_take_full hp hXl hR hq hs k hN hk q hq255 id n0 n1 n2 n3 n4 h2 h3 hr
      · rcases List.eq_nil_or_concat fr with rfl | ⟨f, b, hfb⟩
        · exact do_take_new hp hXl hR hq hs k hN hk q hq255 id n0 n1 n2 n3 n4 h2 h3 hr
        · rw [List.concat_eq_append] at hfb
          subst hfb
          obtain ⟨i, _, rfl, _⟩ := hp.ok.rel b (by simp)
          exact do_take_free hp hXl hR hq hs k hN hk q hq255 id n0 n1 n2 n3 n4 h2 h3 hr
end
end Go.Proofs.Ytljclikholchmaa
