/- The parser of layer 7 (ptext): operator, number. -/
import Derived.Test.YtipapemcedkinaaP1
import Derived.Lib.Bytealg
import Derived.Laws.Externs
namespace Go.Proofs.Ytipapemcedkinaa
open Go.RowKit Go.PlainAid

/-- The operator of a symbol, 0 of every other byte. -/
def opF (c : Int) : Int := if c = 33 then 4 else if c = 38 then 5 else if c = 124 then 6 else if c = 94 then 7 else if c = 62 then 8 else if c = 61 then 9 else if c = 63 then 10 else 0
theorem opF_range (c : Int) : opF c = 0 ∨ (4 ≤ opF c ∧ opF c ≤ 10) := by unfold opF; (repeat' split) <;> simp
def idxF (c : Int) : Int := if opF c = 0 then -1 else opF c - 4
theorem index_all : ∀ x : Fin 256, Lib.indexByte [33, 38, 124, 94, 62, 61, 63] x.val.toUInt8 = idxF (x.val : Int) := by decide +kernel
theorem index_is {c : Int} (h0 : 0 ≤ c) (h1 : c ≤ 255) : Lib.indexByte [33, 38, 124, 94, 62, 61, 63] c.toNat.toUInt8 = idxF c := by
  have h := index_all ⟨c.toNat, by omega⟩
  rw [h]
  show idxF ((c.toNat : Nat) : Int) = _
  rw [Int.toNat_of_nonneg h0]
set_option maxRecDepth 100000 in
theorem p_index50 (c : Int) (h0 : 0 ≤ c) (h1 : c ≤ 255) (w : World) :
    Calls Try.prog 50 #[.string ⟨#[33, 38, 124, 94, 62, 61, 63]⟩, .int .u8 c] w fun e w' => e = .returned (.int .i64 (idxF c)) ∧ w' = w := by
  go_enter Try.func50, Try.ntmps50
  go_wp2
  rw [run_callFunc_extern Try.func52 (by kernel_rfl) (by kernel_rfl) (by kernel_rfl) (e := Extern.BytealgIndexByte.indexByte) (by kernel_rfl), Lib.run_indexByteString]
  simp only [Result.andThen]
  rw [Oper.upon_value]
  go_wp2
  go_ret
  exact ⟨congrArg (fun x => Ending.returned (.int .i64 x)) (index_is h0 h1), rfl⟩
theorem p_index (c : Int) (h0 : 0 ≤ c) (h1 : c ≤ 255) (w : World) :
    Calls Try.prog 40 #[.string ⟨#[33, 38, 124, 94, 62, 61, 63]⟩, .int .u8 c] w fun e w' => e = .returned (.int .i64 (idxF c)) ∧ w' = w := by
  have HI := Lib.hid (p_index50 c h0 h1)
  go_enter Try.func40, Try.ntmps40
  go_wp2_with (go_at_call 50; (refine (HI.out _).mono ?_); rintro e w' ⟨rfl, rfl⟩)
  go_ret
  exact ⟨rfl, rfl⟩
/-- What the parser's functions leave that hand back a number: the number and the place behind it, or the place of a fault. -/
inductive NR where
  | bad (a : Nat)
  | ok (n : Int) (a : Nat)
def NumP (pb : Nat) (s : ByteArray) (w : World) : NR → Ending → World → Prop
  | .bad a, e, w' => e = faultAt a ∧ Frm (At pb) w w'
  | .ok n a, e, w' => e = .returned (.int .i64 n) ∧ Frm (At pb) w w' ∧ Ps pb s a w'
def operR (s : ByteArray) (k : Nat) : NR := if opF (Go.PlainAid.bt s k) = 0 then .bad k else .ok (opF (Go.PlainAid.bt s k)) (k + 1)
set_option maxRecDepth 100000 in
theorem p_oper (pb : Nat) (s : ByteArray) (k : Nat) (w : World) (h : Ps pb s k w) (hk : k ≤ s.size) (hs : s.size ≤ 65536) :
    Calls Try.prog 26 #[.pointer (some ⟨pb, 0, none⟩)] w (NumP pb s w (operR s k)) := by
  have HP := Lib.hid (p_peek pb s k w h hk hs)
  have H0 := Lib.hid h
  have HI := Lib.hid (p_index (Go.PlainAid.bt s k) (bt_nonneg s k) (bt_le s k))
  have c1 : ∀ n, (w.drewN n).cell? ⟨pb, 1, none⟩ = some (.int .i64 (k : Int)) := fun n => (h.drewN n).cell 1
  have f1 : ∀ n, (w.drewN n).frozen? ⟨pb, 1, none⟩ = false := fun n => (h.drewN n).frozen 1
  clear h
  by_cases h0 : opF (Go.PlainAid.bt s k) = 0
  · have hi : idxF (Go.PlainAid.bt s k) = -1 := by unfold idxF; rw [if_pos h0]
    have HR : Hid (operR s k = .bad k) := Lib.hid (by unfold operR; rw [if_pos h0])
    rw [hi] at HI
    rw [HR.out]
    clear h0 hi
    go_enter Try.func26, Try.ntmps26
    go_wp2_with (first
      | (go_at_call 40; (refine (HI.out _).mono ?_); rintro e w' ⟨rfl, rfl⟩)
      | (go_at_call 23; (refine HP.out.mono ?_); rintro e w1 ⟨rfl, m, rfl⟩; have c2 := c1 m; have f2 := f1 m; clear c1 f1))
    exact ⟨rfl, rfl, frm_drew _⟩
  · have hr := (opF_range (Go.PlainAid.bt s k)).resolve_left h0
    have hi : idxF (Go.PlainAid.bt s k) = opF (Go.PlainAid.bt s k) - 4 := by unfold idxF; rw [if_neg h0]
    have HR : Hid (operR s k = .ok (opF (Go.PlainAid.bt s k)) (k + 1)) := Lib.hid (by unfold operR; rw [if_neg h0])
    rw [hi] at HI
    rw [HR.out]
    clear h0 hi
    generalize opF (Go.PlainAid.bt s k) = o at *
    have k1 : ¬ o - 4 < 0 := by omega
    have HU : Hid (∀ n, Ps pb s (k + 1) ((w.drewN n).setCell ⟨pb, 1, none⟩ (.int .i64 ((k + 1 : Nat) : Int)))) := Lib.hid (fun n => Ps.drew_put H0.out n _)
    go_enter Try.func26, Try.ntmps26
    go_wp2_with (first
      | (go_at_call 40; (refine (HI.out _).mono ?_); rintro e w' ⟨rfl, rfl⟩)
      | (go_at_call 23; (refine HP.out.mono ?_); rintro e w1 ⟨rfl, m, rfl⟩; have c2 := c1 m; have f2 := f1 m; clear c1 f1))
    go_ret
    exact ⟨by show Ending.returned (.int .i64 (4 + (o - 4))) = _; rw [show 4 + (o - 4) = o by omega], (frm_drew (S := At pb) _).set (g := pb) rfl _ _, HU.out _⟩
/-- A digit at k. -/
abbrev dig (s : ByteArray) (k : Nat) : Prop := 48 ≤ Go.PlainAid.bt s k ∧ Go.PlainAid.bt s k ≤ 57
/-- The end of at most r digits from k on. -/
def nrun (s : ByteArray) : Nat → Nat → Nat
  | _, 0 => 0
  | k, r + 1 => if dig s k then nrun s (k + 1) r + 1 else 0
/-- How many bytes the number at k has. -/
def nlen (s : ByteArray) (k : Nat) : Nat := if Go.PlainAid.bt s k = 48 then 1 else nrun s k 4
/-- The value of the j digits at k. -/
def nval (s : ByteArray) (k : Nat) : Nat → Int
  | 0 => 0
  | j + 1 => nval s k j * 10 + (Go.PlainAid.bt s (k + j) - 48)
theorem dig_lt {s : ByteArray} {k : Nat} (h : dig s k) : k < s.size := by
  rcases Nat.lt_or_ge k s.size with h1 | h1
  · exact h1
  · have := bt_end s h1; omega
theorem nrun_le (s : ByteArray) : ∀ r k, nrun s k r ≤ r
  | 0, _ => Nat.le_refl _
  | r + 1, k => by
    rw [nrun]; split
    · have := nrun_le s r (k + 1); omega
    · omega
theorem nrun_dig (s : ByteArray) : ∀ r k i, i < nrun s k r → dig s (k + i)
  | 0, _, i, h => by rw [nrun] at h; omega
  | r + 1, k, i, h => by
    rw [nrun] at h
    split at h
    · rename_i hd
      cases i with
      | zero => exact hd
      | succ i => have := nrun_dig s r (k + 1) i (by omega); rwa [show k + (i + 1) = k + 1 + i by omega]
    · omega
theorem nlen_dig (s : ByteArray) (k i : Nat) (h : i < nlen s k) : dig s (k + i) := by
  unfold nlen at h
  split at h
  · rename_i h0
    obtain rfl : i = 0 := by omega
    show 48 ≤ Go.PlainAid.bt s k ∧ Go.PlainAid.bt s k ≤ 57
    omega
  · exact nrun_dig s 4 k i h
theorem nlen_le (s : ByteArray) (k : Nat) : nlen s k ≤ 4 := by
  unfold nlen; split
  · omega
  · exact nrun_le s 4 k
theorem nlen_size {s : ByteArray} {k : Nat} (hk : k ≤ s.size) : k + nlen s k ≤ s.size := by
  rcases Nat.eq_zero_or_pos (nlen s k) with h | h
  · omega
  · have := dig_lt (nlen_dig s k (nlen s k - 1) (by omega)); omega
theorem bt_sub {s : ByteArray} {a b i : Nat} (hb : b ≤ s.size) (h : a + i < b) : Go.PlainAid.bt (s.extract a b) i = Go.PlainAid.bt s (a + i) := by
  unfold Go.PlainAid.bt
  rw [dif_pos (by rw [ByteArray.size_extract]; omega), dif_pos (by omega)]
  simp [ByteArray.getElem_extract]
theorem nval_sub {s : ByteArray} {a b : Nat} (hb : b ≤ s.size) : ∀ j, a + j ≤ b → valB (s.extract a b) j = nval s a j
  | 0, _ => rfl
  | j + 1, h => by
    show valB (s.extract a b) j * 10 + (Go.PlainAid.bt (s.extract a b) j - 48) = nval s a j * 10 + (Go.PlainAid.bt s (a + j) - 48)
    rw [nval_sub hb j (by omega), bt_sub hb (by omega)]
theorem nval_nonneg {s : ByteArray} {k : Nat} : ∀ j, (∀ i, i < j → dig s (k + i)) → 0 ≤ nval s k j
  | 0, _ => Int.le_refl _
  | j + 1, h => by
    show 0 ≤ nval s k j * 10 + (Go.PlainAid.bt s (k + j) - 48)
    have h1 := nval_nonneg j fun i hi => h i (by omega)
    have h2 := (h j (by omega)).1
    omega
theorem nval_lt {s : ByteArray} {k : Nat} : ∀ j, (∀ i, i < j → dig s (k + i)) → nval s k j < 10 ^ j
  | 0, _ => by show (0 : Int) < 1; omega
  | j + 1, h => by
    show nval s k j * 10 + (Go.PlainAid.bt s (k + j) - 48) < 10 ^ (j + 1)
    have h1 := nval_lt j fun i hi => h i (by omega)
    have h2 := (h j (by omega)).2
    rw [Int.pow_succ]
    omega
theorem nval_9999 {s : ByteArray} {k : Nat} : 0 ≤ nval s k (nlen s k) ∧ nval s k (nlen s k) ≤ 9999 := by
  refine ⟨nval_nonneg _ (nlen_dig s k), ?_⟩
  have h1 := nval_lt _ (nlen_dig s k)
  have h2 := nlen_le s k
  obtain ⟨n, hn⟩ : ∃ n, nlen s k = n := ⟨_, rfl⟩
  rw [hn] at h1 h2 ⊢
  have : n = 0 ∨ n = 1 ∨ n = 2 ∨ n = 3 ∨ n = 4 := by omega
  rcases this with rfl | rfl | rfl | rfl | rfl <;> omega
/-- The number at k is a decimal number. -/
theorem nform {s : ByteArray} {k : Nat} (hk : k ≤ s.size) (h : nlen s k ≠ 0) : formF (s.extract k (k + nlen s k)) ∧ valS (s.extract k (k + nlen s k)) = nval s k (nlen s k) := by
  have hb := nlen_size hk
  have hsz : (s.extract k (k + nlen s k)).size = nlen s k := by rw [ByteArray.size_extract]; omega
  have h0 : Go.PlainAid.bt (s.extract k (k + nlen s k)) 0 = Go.PlainAid.bt s k := by rw [bt_sub hb (by omega), Nat.add_zero]
  have hd0 := nlen_dig s k 0 (by omega)
  rw [Nat.add_zero] at hd0
  have hneg : ¬ Neg (s.extract k (k + nlen s k)) := fun hn => by have := hn.2; rw [h0] at this; have := hd0.1; omega
  refine ⟨.inr ⟨hneg, fun i hi => ?_, by omega, fun h1 => ?_⟩, ?_⟩
  · rw [hsz] at hi
    rw [bt_sub hb (by omega)]
    exact nlen_dig s k i hi
  · rw [h0] at h1
    rw [hsz]
    unfold nlen
    rw [if_pos h1]
  · unfold valS
    rw [if_neg hneg, hsz, nval_sub hb _ (by omega)]
theorem nparse {s : ByteArray} {k : Nat} (hk : k ≤ s.size) (h : nlen s k ≠ 0) : parseF (s.extract k (k + nlen s k)) 0 9999 = (nval s k (nlen s k), 0) := by
  obtain ⟨h1, h2⟩ := nform hk h
  rw [parse_in h1 (by rw [h2]; exact nval_9999), h2]
def numR (s : ByteArray) (k : Nat) : NR := if nlen s k = 0 then .bad k else .ok (nval s k (nlen s k)) (k + nlen s k)
/-- How the loop over the digits stands: j bytes are read, of n. -/
def NS (s : ByteArray) (k n j : Nat) : Prop := (j = 0 ∨ Go.PlainAid.bt s k ≠ 48) ∧ j < 4 ∧ nlen s k = n ∧ (j ≠ 0 → n = j + nrun s (k + j) (4 - j))
theorem NS.stop {s : ByteArray} {k n j : Nat} (h : NS s k n j) (hd : ¬ dig s (k + j)) : n = j := by
  obtain ⟨h1, h2, h3, h4⟩ := h
  rcases Nat.eq_zero_or_pos j with rfl | hj
  · rw [← h3]
    rw [Nat.add_zero] at hd
    unfold nlen
    rw [if_neg (by intro e; exact hd (by show _ ∧ _; omega)), nrun, if_neg hd]
  · have h5 := h4 (by omega)
    obtain ⟨r, hr⟩ : ∃ r, 4 - j = r + 1 := ⟨3 - j, by omega⟩
    rw [hr, nrun, if_neg hd] at h5
    exact h5
theorem NS.zero {s : ByteArray} {k n : Nat} (h : NS s k n 0) (h0 : Go.PlainAid.bt s k = 48) : n = 1 := by
  rw [← h.2.2.1]; unfold nlen; rw [if_pos h0]
theorem NS.next {s : ByteArray} {k n j : Nat} (h : NS s k n j) (hd : dig s (k + j)) (h0 : Go.PlainAid.bt s k ≠ 48) : n = j + 1 + nrun s (k + (j + 1)) (4 - (j + 1)) := by
  obtain ⟨h1, h2, h3, h4⟩ := h
  obtain ⟨r, hr⟩ : ∃ r, 4 - j = r + 1 := ⟨3 - j, by omega⟩
  have hr2 : 4 - (j + 1) = r := by omega
  have e : n = j + nrun s (k + j) (4 - j) := by
    rcases Nat.eq_zero_or_pos j with rfl | hj
    · rw [← h3]; unfold nlen; rw [if_neg h0]; simp
    · exact h4 (by omega)
  rw [hr, nrun, if_pos hd] at e
  rw [hr2, show k + (j + 1) = k + j + 1 by omega]
  omega
end Go.Proofs.Ytipapemcedkinaa
