/-
  KDeed: The kind of elements stooklaw14.Op: slices of deeds for a disk, with their bytes.
  Math: Plain mathematics of chapter 1 (leb): the bytes of a number, how they are read, and what follows. No Go in sight.
  Mem: Words for memory: a slice of bytes that reads as a list of numbers, and what a call leaves behind.
-/
import Derived.Test.YtmcbjcbnckpfkaaGreatPk03
import Derived.Test.YtmcbjcbnckpfkaaGreatPk04
import Derived.Test.YtmcbjcbnckpfkaaGreatPk02
import Derived.Test.YtmcbjcbnckpfkaaGreatProg
import Derived.WalkKit
import Derived.WalkLawsBesides
import Derived.WalkSpells
import Derived.Outline
import Derived.Lib.Hide
namespace Go.Proofs.YtmcbjcbnckpfkaaGreat
open Go.ChangeShapes Go.WideShapes Go.RowKit Go.Deep
set_option linter.unusedVariables false

/-- A deed as it lies in memory: its bytes are a slice. -/
structure Raw where
  call : Nat
  name : ByteArray
  to : ByteArray
  at_ : Int
  A : Option Addr
  n : Nat
  c : Nat
def RawOk (x : Raw) : Prop := x.call < 256 ∧ x.name.size ≤ maxLen ∧ x.to.size ≤ maxLen ∧ I64 x.at_
def dK : El Tryz.prog Raw where
  e := 35
  s := 22
  size := 5
  bytes := 72
  zero := .agg #[.int .u8 0, .string ByteArray.empty, .string ByteArray.empty, .int .i64 0, .slice none 0 0]
  z := ⟨0, ByteArray.empty, ByteArray.empty, 0, none, 0, 0⟩
  enc := fun x => [.int .u8 (x.call : Nat), .string x.name, .string x.to, .int .i64 x.at_, .slice x.A x.n x.c]
  ok := RawOk
  len := fun _ => rfl
  one := fun x u hu => by simp at hu; rcases hu with rfl | rfl | rfl | rfl | rfl <;> rfl
  okz := by simp [RawOk, I64, maxLen]
  encz := rfl
  pos := by decide
  under := Tryz.underlying22
  info := by kernel_rfl
/-- What a deed in memory stands for. -/
def Deed (w : World) (B : Nat) (x : Raw) (o : Sf.Op) : Prop :=
  o.call = x.call ∧ o.name = x.name ∧ o.to = x.to ∧ o.at_ = x.at_ ∧ Lv yK w B (.slice x.A x.n x.c) o.b
/-- A slice of deeds. -/
def Dv (w : World) (B : Nat) (v : Value) (l : List Sf.Op) : Prop :=
  ∃ us : List Raw, us.length = l.length ∧ Lv dK w B v us ∧ ∀ (j : Nat) (x : Raw) (o : Sf.Op), us[j]? = some x → l[j]? = some o → Deed w B x o
def deedC (x : Raw) : Array Value := #[.int .u8 (x.call : Nat), .string x.name, .string x.to, .int .i64 x.at_, .slice x.A x.n x.c]
section
variable {w w' : World} {B : Nat} {v : Value} {l : List Sf.Op}
theorem Deed.below_ {x : Raw} {o : Sf.Op} (h : Deed w B x o) {B' : Nat} (hb : Below B' w w') (hB : B ≤ B') : Deed w' B x o := ⟨h.1, h.2.1, h.2.2.1, h.2.2.2.1, h.2.2.2.2.below_ hb hB⟩
theorem Dv.below_ (h : Dv w B v l) {B' : Nat} (hb : Below B' w w') (hB : B ≤ B') : Dv w' B v l := by
  obtain ⟨us, h1, h2, h3⟩ := h
  exact ⟨us, h1, h2.below_ hb hB, fun j x o hx ho => (h3 j x o hx ho).below_ hb hB⟩
theorem Deed.mono_ {x : Raw} {o : Sf.Op} (h : Deed w B x o) {B' : Nat} (hB : B ≤ B') : Deed w B' x o := ⟨h.1, h.2.1, h.2.2.1, h.2.2.2.1, h.2.2.2.2.mono_ hB⟩
theorem Dv.mono_ (h : Dv w B v l) {B' : Nat} (hB : B ≤ B') : Dv w B' v l := by
  obtain ⟨us, h1, h2, h3⟩ := h
  exact ⟨us, h1, h2.mono_ hB, fun j x o hx ho => (h3 j x o hx ho).mono_ hB⟩
theorem Dv.len_ {A : Option Addr} {n c : Nat} (h : Dv w B (.slice A n c) l) : n = l.length := by
  obtain ⟨us, h1, h2, _⟩ := h
  rw [h2.len_.1, h1]
/-- Deed k, whose cells these are. -/
theorem Dv.at_ {A : Option Addr} {n c : Nat} (h : Dv w B (.slice A n c) l) {k : Nat} (hk : k < l.length) :
    ∃ b off x o, A = some ⟨b, off, none⟩ ∧ b < B ∧ RawOk x ∧ l[k]? = some o ∧ Deed w B x o ∧ w.rangeAt b (off + k * 5) (deedC x).toList := by
  obtain ⟨us, h1, h2, h3⟩ := h
  obtain ⟨b, off, x, hA, hb, hx, hq, hm⟩ := h2.mid_ (k := k) (by omega)
  exact ⟨b, off, x, l[k], hA, hb, hx, List.getElem?_eq_getElem hk, h3 k x _ hq (List.getElem?_eq_getElem hk), hm⟩
/-- The bytes of deed k. -/
theorem Dv.row_ {A : Option Addr} {n c : Nat} (h : Dv w B (.slice A n c) l) {k : Nat} (hk : k < l.length) :
    ∃ b off x o, A = some ⟨b, off, none⟩ ∧ b < B ∧ l[k]? = some o ∧ Deed w B x o ∧ x.n = o.b.length ∧ o.b.length ≤ maxLen ∧ w.cell? ⟨b, off + k * 5 + 4, none⟩ = some (.slice x.A x.n x.c) := by
  obtain ⟨b, off, x, o, hA, hb, _, hq, hd, hm⟩ := h.at_ hk
  have h5 := hd.2.2.2.2.len_
  exact ⟨b, off, x, o, hA, hb, hq, hd, h5.1, by omega, hm 4 _ rfl⟩
end

/-- An argument that is a slice of whatever elements, opened as a list of which something is known besides. -/
theorem lv_open2 {H : Type} {enc : TypeId × Value → H} {P : Program} {w : World} {base : Nat} {spare : Nat → Bool} {held : Bool} {α : Type} (K : El P α) (Q : α → Prop) (inj : ∀ a b, K.enc a = K.enc b → a = b) (hce : P.cellsOf K.e = K.size)
    (dec : ∀ (fuel : Nat) (cs : List Value) (x : DataW H × List MemPlace), DataW.trod enc P w base spare held fuel K.e cs = some x → ∃ a, K.ok a ∧ Q a ∧ cs = K.enc a)
    {fuel : Nat} {a : Option Addr} {len cap : Nat} {x : DataW H × List MemPlace} (h : DataW.trod enc P w base spare held fuel K.s [.slice a len cap] = some x) :
    ∃ l : List α, l.length = len ∧ Lv K w w.heap.size (.slice a len cap) l ∧ ∀ y ∈ l, Q y := by
  have h' := h
  obtain ⟨l, h1, h2⟩ := lv_open K hce (fun fuel cs x h => (dec fuel cs x h).imp fun a h => ⟨h.1, h.2.2⟩) h
  rcases open_slice K.under h' with ⟨h0, _⟩ | ⟨ad, len', cap', m, n, D, Pl, h0, _, hl, hm, hmm, _, hx⟩
  · simp at h0
    obtain ⟨rfl, rfl, rfl⟩ := h0
    obtain rfl := List.eq_nil_of_length_eq_zero h1
    exact ⟨[], rfl, h2, by simp⟩
  · simp at h0
    obtain ⟨rfl, rfl, rfl⟩ := h0
    have hlm : len ≤ m := by rw [hmm]; split <;> omega
    refine ⟨l, h1, h2, fun y hy => ?_⟩
    obtain ⟨i, hi⟩ := List.getElem?_of_mem hy
    have hil := (List.getElem?_eq_some_iff.1 hi).1
    obtain ⟨cs', c1, c2⟩ := hx i (by omega)
    obtain ⟨z, _, hz, rfl⟩ := dec _ _ _ c2
    rw [hce] at c1
    obtain ⟨_, _, hcell⟩ := World.cells?_some c1
    obtain ⟨b, off, y', e, _, _, hy', hc⟩ := h2.at_ hil
    injection e with e
    subst e
    rw [hi] at hy'
    obtain rfl := Option.some.inj hy'
    have he : K.enc y = K.enc z := by
      apply List.ext_getElem?
      intro j
      by_cases hj : j < K.size
      · have h3 := hcell j hj
        simp only [add_addr] at h3
        have hjy : j < (K.enc y).length := by rw [K.len]; exact hj
        have h4 := hc j _ (List.getElem?_eq_getElem hjy)
        rw [← Nat.add_assoc] at h4
        rw [List.getElem?_eq_getElem hjy, ← h4, ← h3]
      · rw [List.getElem?_eq_none (by rw [K.len]; omega), List.getElem?_eq_none (by rw [K.len]; omega)]
    rw [inj y z he]
    exact hz
theorem raw_inj (a b : Raw) (h : dK.enc a = dK.enc b) : a = b := by
  obtain ⟨a1, a2, a3, a4, a5, a6, a7⟩ := a
  obtain ⟨b1, b2, b3, b4, b5, b6, b7⟩ := b
  simp only [dK, List.cons.injEq, Value.int.injEq, Value.string.injEq, Value.slice.injEq, and_true, true_and] at h
  obtain ⟨h1, h2, h3, h4, h5, h6, h7⟩ := h
  obtain rfl := Int.ofNat.inj h1
  subst h2 h3 h4 h5 h6 h7
  rfl
theorem deed_dec {H : Type} {enc : TypeId × Value → H} {w : World} {sp : Nat → Bool} {held : Bool} {fuel : Nat} {cs : List Value} {x : DataW H × List MemPlace} (h : DataW.trod enc Tryz.prog w 0 sp held fuel 35 cs = some x) :
    ∃ a, RawOk a ∧ (∃ o, Deed w w.heap.size a o) ∧ cs = dK.enc a := by
  obtain ⟨hl, hf⟩ := dec_fields Tryz.underlying35 (by kernel_rfl) (by kernel_rfl) h
  obtain ⟨n0, v0, y0, h0, g0⟩ := hf 0 _ rfl
  obtain ⟨n1, v1, y1, h1, g1⟩ := hf 1 _ rfl
  obtain ⟨n2, v2, y2, h2, g2⟩ := hf 2 _ rfl
  obtain ⟨n3, v3, y3, h3, g3⟩ := hf 3 _ rfl
  obtain ⟨n4, v4, y4, h4, g4⟩ := hf 4 _ rfl
  obtain ⟨a0, rfl, w0⟩ := dec_int Tryz.underlying5 g0
  obtain ⟨a1, u1, _, w1⟩ := DataW.trod_string Tryz.underlying9 g1
  obtain rfl := List.singleton_inj.1 u1
  obtain ⟨a2, u2, _, w2⟩ := DataW.trod_string Tryz.underlying9 g2
  obtain rfl := List.singleton_inj.1 u2
  obtain ⟨a3, rfl, w3⟩ := dec_int Tryz.underlying3 g3
  have b0 := bounds_u8 w0
  have b3 := bounds_i64 w3
  obtain ⟨t0, rfl⟩ := Int.eq_ofNat_of_zero_le b0.1
  have h5 : ∃ A n c, v4 = .slice A n c := by
    rcases open_slice Tryz.underlying33 g4 with ⟨h0, _⟩ | ⟨ad, len', cap', m, n, D, Pl, h0, _⟩
    · simp at h0; exact ⟨_, _, _, h0⟩
    · simp at h0; exact ⟨_, _, _, h0⟩
  obtain ⟨A, n, c, rfl⟩ := h5
  obtain ⟨b, _, hb⟩ := octs_in g4
  refine ⟨⟨t0, a1, a2, a3, A, n, c⟩, ⟨by show t0 < 256; omega, w1, w2, by show I64 a3; unfold I64; omega⟩, ⟨⟨t0, a1, a2, a3, b⟩, rfl, rfl, rfl, rfl, hb⟩, ?_⟩
  have hl2 : cs.length = 5 := hl
  match cs, hl2 with
  | [c0, c1, c2, c3, c4], _ =>
    simp at h0 h1 h2 h3 h4
    rw [h0, h1, h2, h3, h4]
    rfl
theorem deeds_in {H : Type} {enc : TypeId × Value → H} {w : World} {sp : Nat → Bool} {held : Bool} {fuel : Nat} {a : Option Addr} {len cap : Nat} {x : DataW H × List MemPlace} (h : DataW.trod enc Tryz.prog w 0 sp held fuel 22 [.slice a len cap] = some x) :
    ∃ l : List Sf.Op, l.length = len ∧ Dv w w.heap.size (.slice a len cap) l := by
  obtain ⟨us, h1, h2, h3⟩ := lv_open2 dK (fun x => ∃ o, Deed w w.heap.size x o) raw_inj (by kernel_rfl) (fun fuel cs x h => deed_dec h) h
  haveI : Inhabited Sf.Op := ⟨⟨0, ByteArray.empty, ByteArray.empty, 0, []⟩⟩
  obtain ⟨f, hf⟩ := choose_lt (α := Sf.Op) (n := len) (p := fun i o => ∀ x, us[i]? = some x → Deed w w.heap.size x o) (fun i hi => by
    obtain ⟨o, ho⟩ := h3 us[i] (List.getElem_mem (by omega))
    exact ⟨o, fun x hx => by rw [List.getElem?_eq_getElem (by omega)] at hx; obtain rfl := Option.some.inj hx; exact ho⟩)
  refine ⟨(List.range len).map f, by simp, us, by simp [h1], h2, fun j x o hx ho => ?_⟩
  have hj : j < len := by have := (List.getElem?_eq_some_iff.1 hx).1; omega
  rw [List.getElem?_map, List.getElem?_range hj] at ho
  obtain rfl := Option.some.inj ho
  exact hf j hj x hx
end Go.Proofs.YtmcbjcbnckpfkaaGreat
namespace Go.Proofs.YtmcbjcbnckpfkaaGreat.Mt

/-- The bytes of a number, with so many groups ahead of the last. -/
def putF : Nat → Nat → List Nat
  | 0, n => [n]
  | k + 1, n => if n < 128 then [n] else (n % 128 + 128) :: putF k (n / 128)
def put (n : Nat) : List Nat := putF 9 n

def B64 (n : Nat) : Prop := n < 18446744073709551616

theorem putF_succ (k n : Nat) : putF (k + 1) n = if n < 128 then [n] else (n % 128 + 128) :: putF k (n / 128) := rfl
theorem putF_more (k : Nat) : ∀ n, n < 128 ^ (k + 1) → putF (k + 1) n = putF k n := by
  induction k with
  | zero => intro n h; have : n < 128 := by simpa using h
            simp [putF, this]
  | succ k ih =>
    intro n h
    rw [putF_succ (k + 1) n, putF_succ k n]
    by_cases hn : n < 128
    · rw [if_pos hn, if_pos hn]
    · rw [if_neg hn, if_neg hn, ih (n / 128) (by rw [Nat.div_lt_iff_lt_mul (by decide)]; rw [Nat.pow_succ] at h; exact h)]

theorem put_small {n : Nat} (h : n < 128) : put n = [n] := by unfold put; rw [putF_succ 8, if_pos h]
theorem put_step {n : Nat} (h : 128 ≤ n) (hb : B64 n) : put n = (n % 128 + 128) :: put (n / 128) := by
  unfold B64 at hb
  show putF 9 n = _ :: putF 9 (n / 128)
  rw [putF_more 8 (n / 128) (by omega), putF_succ 8, if_neg (by omega)]

theorem putF_ne (k n : Nat) : putF k n ≠ [] := by cases k <;> simp only [putF] <;> (try split) <;> simp
theorem put_ne (n : Nat) : put n ≠ [] := putF_ne 9 n
theorem putF_len (k : Nat) : ∀ n, (putF k n).length ≤ k + 1 := by
  induction k with
  | zero => intro n; simp [putF]
  | succ k ih => intro n; rw [putF_succ]; split
                 · simp
                 · have := ih (n / 128); simp; omega
theorem put_len_le (n : Nat) : (put n).length ≤ 10 := putF_len 9 n
theorem put_len_pos (n : Nat) : 1 ≤ (put n).length := by
  have := put_ne n
  cases h : put n with
  | nil => exact absurd h this
  | cons => simp
theorem putF_lt (k : Nat) : ∀ n, n < 128 ^ k * 128 → ∀ x ∈ putF k n, x < 256 := by
  induction k with
  | zero => intro n h x hx; simp [putF] at hx; omega
  | succ k ih =>
    intro n h x hx
    rw [putF_succ] at hx
    by_cases hn : n < 128
    · rw [if_pos hn] at hx; simp at hx; omega
    · rw [if_neg hn] at hx
      rcases List.mem_cons.1 hx with rfl | hx
      · omega
      · exact ih (n / 128) (by rw [Nat.div_lt_iff_lt_mul (by decide)]; rw [Nat.pow_succ] at h; exact h) x hx
theorem put_lt {n : Nat} (hb : B64 n) : ∀ x ∈ put n, x < 256 := by unfold B64 at hb; exact putF_lt 9 n (by omega)

/-- The length of the bytes of what is left behind a first group. -/
def ln (m : Nat) : Nat := if m = 0 then 0 else (put m).length
theorem ln_zero : ln 0 = 0 := rfl
theorem put_length {n : Nat} (hb : B64 n) : (put n).length = 1 + ln (n / 128) := by
  by_cases h : n < 128
  · rw [put_small h]; have : n / 128 = 0 := by omega
    simp [ln, this]
  · rw [put_step (by omega) hb]; have : n / 128 ≠ 0 := by omega
    simp [ln, this]; omega
theorem ln_step {m : Nat} (hb : B64 m) (h : 0 < m) : ln m = 1 + ln (m / 128) := by
  rw [← put_length hb]; unfold ln; rw [if_neg (by omega)]
theorem b64_div {m : Nat} (hb : B64 m) : B64 (m / 128) := by unfold B64 at *; omega
theorem ln_le (m : Nat) : ln m ≤ 10 := by unfold ln; split; · omega
                                          · exact put_len_le m
theorem ln_pos {m : Nat} (h : 0 < m) : 1 ≤ ln m := by unfold ln; rw [if_neg (by omega)]; exact put_len_pos m

theorem putF_len_iff (k : Nat) : ∀ f n, k < f → ((putF f n).length ≤ k + 1 ↔ n < 128 ^ (k + 1)) := by
  induction k with
  | zero =>
    intro f n h
    obtain ⟨f, rfl⟩ : ∃ g, f = g + 1 := ⟨f - 1, by omega⟩
    rw [putF_succ]
    by_cases hn : n < 128
    · simp [hn]
    · rw [if_neg hn]
      have := putF_ne f (n / 128)
      have : 1 ≤ (putF f (n / 128)).length := by
        cases hh : putF f (n / 128) with
        | nil => exact absurd hh this
        | cons => simp
      simp only [List.length_cons]
      omega
  | succ k ih =>
    intro f n h
    obtain ⟨f, rfl⟩ : ∃ g, f = g + 1 := ⟨f - 1, by omega⟩
    rw [putF_succ]
    by_cases hn : n < 128
    · have : 128 ≤ 128 ^ (k + 1 + 1) := by
        have := Nat.pow_le_pow_right (show 0 < 128 by decide) (show 1 ≤ k + 1 + 1 by omega)
        simpa using this
      simp [hn]; omega
    · rw [if_neg hn]
      have h1 := ih f (n / 128) (by omega)
      have h2 : n / 128 < 128 ^ (k + 1) ↔ n < 128 ^ (k + 1 + 1) := by rw [Nat.div_lt_iff_lt_mul (by decide), ← Nat.pow_succ]
      rw [← h2, ← h1]
      simp
theorem put_ten (n : Nat) : (put n).length = 10 ↔ 9223372036854775808 ≤ n := by
  have h := putF_len_iff 8 9 n (by omega)
  have h2 := putF_len 9 n
  unfold put
  omega
theorem put_mono {n m : Nat} (h : n ≤ m) : (put n).length ≤ (put m).length := by
  have h2 := put_len_le n
  have h3 := put_len_pos m
  by_cases hm : (put m).length ≤ 9
  · obtain ⟨k, hk⟩ : ∃ k, (put m).length = k + 1 := ⟨(put m).length - 1, by omega⟩
    have h4 := (putF_len_iff k 9 m (by omega)).1 (by unfold put at hk; omega)
    have h5 := (putF_len_iff k 9 n (by omega)).2 (by omega)
    unfold put at *
    omega
  · omega

/-! ### Reading -/
/-- What reading tells, from place i on, of a number of which X was read: the number, its bytes, the error's number. -/
def rd (i X : Nat) : List Nat → Nat × Nat × Nat
  | [] => (0, 0, 4)
  | c :: r => if (i = 9 ∧ 1 < c) ∨ (0 < i ∧ c = 0) then (0, 0, 5) else if c < 128 then (X + c * 128 ^ i, i + 1, 0) else rd (i + 1) (X + c % 128 * 128 ^ i) r
def val : List Nat → Nat
  | [] => 0
  | c :: r => c % 128 + 128 * val r
theorem step_lt {k X c : Nat} (hX : X < 128 ^ k) : X + c % 128 * 128 ^ k < 128 ^ (k + 1) := by
  have h1 : c % 128 * 128 ^ k ≤ 127 * 128 ^ k := Nat.mul_le_mul_right _ (by omega)
  rw [Nat.pow_succ]; omega
def get (l : List Nat) (at_ : Int) : Nat × Nat × Nat :=
  if at_ < 0 ∨ (l.length : Int) < at_ then (0, 0, 2)
  else if (rd 0 0 (l.drop at_.toNat)).2.2 = 0 then ((rd 0 0 (l.drop at_.toNat)).1, at_.toNat + (rd 0 0 (l.drop at_.toNat)).2.1, 0) else (0, 0, (rd 0 0 (l.drop at_.toNat)).2.2)

theorem rd_nil (i X : Nat) : rd i X [] = (0, 0, 4) := rfl
theorem rd_form {i X c : Nat} {r : List Nat} (h : (i = 9 ∧ 1 < c) ∨ (0 < i ∧ c = 0)) : rd i X (c :: r) = (0, 0, 5) := by rw [rd, if_pos h]
theorem rd_last {i X c : Nat} {r : List Nat} (h : ¬ ((i = 9 ∧ 1 < c) ∨ (0 < i ∧ c = 0))) (hc : c < 128) : rd i X (c :: r) = (X + c * 128 ^ i, i + 1, 0) := by rw [rd, if_neg h, if_pos hc]
theorem rd_on {i X c : Nat} {r : List Nat} (h : ¬ (i = 9 ∧ 1 < c)) (hc : 128 ≤ c) : rd i X (c :: r) = rd (i + 1) (X + c % 128 * 128 ^ i) r := by rw [rd, if_neg (by omega), if_neg (by omega)]

theorem get_arg {l : List Nat} {a : Int} (h : a < 0 ∨ (l.length : Int) < a) : get l a = (0, 0, 2) := by unfold get; rw [if_pos h]
theorem get_ok {l : List Nat} {a n k : Nat} (h : a ≤ l.length) (hr : rd 0 0 (l.drop a) = (n, k, 0)) : get l a = (n, a + k, 0) := by
  unfold get
  rw [if_neg (by omega), Int.toNat_natCast, hr]; rfl
theorem get_err {l : List Nat} {a e : Nat} (h : a ≤ l.length) (hr : rd 0 0 (l.drop a) = (0, 0, e)) (he : e ≠ 0) : get l a = (0, 0, e) := by
  unfold get
  rw [if_neg (by omega), Int.toNat_natCast, hr]; simp [he]

/-! ### What is put is got -/
theorem rd_putF (f : Nat) : ∀ (i X n : Nat) (r : List Nat), i + f = 9 → n < 128 ^ f * 2 → (0 < i → n ≠ 0) → rd i X (putF f n ++ r) = (X + n * 128 ^ i, i + (putF f n).length, 0) := by
  induction f with
  | zero =>
    intro i X n r hi hn h0
    have h0' := h0 (by omega)
    show rd i X (n :: r) = _
    rw [rd_last (by omega) (by omega)]
    simp [putF]
  | succ f ih =>
    intro i X n r hi hn h0
    rw [putF_succ]
    by_cases h : n < 128
    · rw [if_pos h]
      show rd i X (n :: r) = _
      rw [rd_last (by omega) h]
      simp
    · rw [if_neg h, List.cons_append, rd_on (by omega) (by omega), ih (i + 1) _ (n / 128) r (by omega) (by rw [Nat.div_lt_iff_lt_mul (by decide)]; rw [Nat.pow_succ] at hn; omega) (by omega)]
      have e1 : (n % 128 + 128) % 128 = n % 128 := by omega
      have e2 : n % 128 * 128 ^ i + n / 128 * 128 ^ (i + 1) = n * 128 ^ i := by
        rw [Nat.pow_succ, Nat.mul_comm (128 ^ i) 128, ← Nat.mul_assoc, ← Nat.add_mul]
        congr 1
        omega
      rw [e1, Nat.add_assoc, e2]
      simp
      omega
theorem rd_put {n : Nat} (hb : B64 n) (r : List Nat) : rd 0 0 (put n ++ r) = (n, (put n).length, 0) := by
  unfold B64 at hb
  have h := rd_putF 9 0 0 n r rfl (by omega) (by omega)
  simpa [put] using h

theorem rd_one (f : Nat) : ∀ (i X : Nat) (s : List Nat) (N K : Nat), i + f = 9 → (∀ x ∈ s, x < 256) → rd i X s = (N, K, 0) →
    ∃ n, N = X + n * 128 ^ i ∧ K = i + (putF f n).length ∧ (∃ r, s = putF f n ++ r) ∧ (0 < i → n ≠ 0) ∧ n < 128 ^ f * 2 := by
  induction f with
  | zero =>
    intro i X s N K hi hs h
    cases s with
    | nil => simp [rd] at h
    | cons c r =>
      have hc : c < 256 := hs c (by simp)
      rw [rd] at h
      split at h
      · simp at h
      · rw [if_pos (by omega)] at h
        simp only [Prod.mk.injEq] at h
        exact ⟨c, by omega, by simp [putF]; omega, ⟨r, rfl⟩, by omega, by omega⟩
  | succ f ih =>
    intro i X s N K hi hs h
    cases s with
    | nil => simp [rd] at h
    | cons c r =>
      have hc : c < 256 := hs c (by simp)
      rw [rd] at h
      split at h
      · simp at h
      · by_cases h1 : c < 128
        · rw [if_pos h1] at h
          simp only [Prod.mk.injEq] at h
          have hp : 0 < 128 ^ f := Nat.pow_pos (by decide)
          refine ⟨c, by omega, ?_, ⟨r, ?_⟩, by omega, by rw [Nat.pow_succ]; omega⟩
          · rw [putF_succ, if_pos h1]; simp; omega
          · rw [putF_succ, if_pos h1]; rfl
        · rw [if_neg h1] at h
          obtain ⟨m, hN, hK, ⟨r', hr⟩, hm0, hmb⟩ := ih (i + 1) _ r N K (by omega) (fun x hx => hs x (by simp [hx])) h
          have hm := hm0 (by omega)
          refine ⟨c % 128 + 128 * m, ?_, ?_, ⟨r', ?_⟩, by omega, by rw [Nat.pow_succ]; omega⟩
          · rw [hN, Nat.pow_succ, Nat.add_mul, Nat.mul_comm 128 m, Nat.mul_assoc, Nat.mul_comm 128 (128 ^ i)]; omega
          · rw [hK, putF_succ, if_neg (by omega)]
            have e : (c % 128 + 128 * m) / 128 = m := by omega
            rw [e]; simp; omega
          · rw [putF_succ, if_neg (by omega)]
            have e : (c % 128 + 128 * m) / 128 = m := by omega
            have e2 : (c % 128 + 128 * m) % 128 + 128 = c := by omega
            rw [e, e2, hr]; rfl
theorem rd_ok {s : List Nat} {n k : Nat} (hs : ∀ x ∈ s, x < 256) (h : rd 0 0 s = (n, k, 0)) : B64 n ∧ k = (put n).length ∧ ∃ r, s = put n ++ r := by
  obtain ⟨m, hN, hK, hr, _, hb⟩ := rd_one 9 0 0 s n k rfl hs h
  have e : n = m := by simpa using hN
  subst e
  refine ⟨by unfold B64; omega, by simpa [put] using hK, hr⟩

theorem put_free {n m : Nat} (hn : B64 n) (hm : B64 m) (h : put n = (put m).take (put n).length) : n = m := by
  have h1 := rd_put hn ((put m).drop (put n).length)
  have h2 := rd_put hm []
  have e : put n ++ (put m).drop (put n).length = put m ++ [] := by
    rw [List.append_nil]
    have h3 := List.take_append_drop (put n).length (put m)
    rw [← h] at h3
    exact h3
  rw [e, h2] at h1
  have := congrArg Prod.fst h1
  exact this.symm
end Go.Proofs.YtmcbjcbnckpfkaaGreat.Mt
namespace Go.Proofs.YtmcbjcbnckpfkaaGreat
open Go.RowKit
set_option linter.unusedVariables false

/-- The slice with address A and length l.length holds the bytes l, in a block below B. -/
def Bts (w : World) (B : Nat) (A : Option Addr) (l : List Nat) : Prop :=
  (∀ x ∈ l, x < 256) ∧ (0 < l.length → ∃ b off, A = some ⟨b, off, none⟩ ∧ b < B ∧ ∀ j c, l[j]? = some c → w.cell? ⟨b, off + j, none⟩ = some (.int .u8 (c : Nat)))

section
variable {w w' : World} {B B' : Nat} {A : Option Addr} {l : List Nat}
theorem Bts.nil_ (w : World) (B : Nat) (A : Option Addr) : Bts w B A [] := ⟨by simp, by simp⟩
theorem Bts.at_ (h : Bts w B A l) {k : Nat} (hk : k < l.length) :
    ∃ b off c, A = some ⟨b, off, none⟩ ∧ b < B ∧ c < 256 ∧ l.drop k = c :: l.drop (k + 1) ∧ w.cell? ⟨b, off + k, none⟩ = some (.int .u8 (c : Nat)) := by
  obtain ⟨b, off, e, hb, hc⟩ := h.2 (by omega)
  exact ⟨b, off, l[k], e, hb, h.1 _ (List.getElem_mem hk), List.drop_eq_getElem_cons hk, hc k _ (List.getElem?_eq_getElem hk)⟩
theorem Bts.below (h : Bts w B A l) (hb : Below B' w w') (hB : B ≤ B') : Bts w' B A l :=
  ⟨h.1, fun hn => by
    obtain ⟨b, off, e, hl, hc⟩ := h.2 hn
    exact ⟨b, off, e, hl, fun j c hj => (hb.cell (p := ⟨b, off + j, none⟩) (by show b < B'; omega)).trans (hc j c hj)⟩⟩
theorem Bts.mono (h : Bts w B A l) (hB : B ≤ B') : Bts w B' A l :=
  ⟨h.1, fun hn => by
    obtain ⟨b, off, e, hl, hc⟩ := h.2 hn
    exact ⟨b, off, e, by omega, hc⟩⟩
end

/-- A call that answers this bool, and turns nothing that was there. -/
def IsBool (b : Bool) (w : World) (e : Ending) (w' : World) : Prop := e = .returned (.bool b) ∧ Below w.heap.size w w'
end Go.Proofs.YtmcbjcbnckpfkaaGreat
