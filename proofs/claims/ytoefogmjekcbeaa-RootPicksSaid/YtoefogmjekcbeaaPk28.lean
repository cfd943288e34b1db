/-
  FrameB: From what a row says of a slice of bytes to a list (Lv yK).
  RtBack: Two roots, one of the next number: which one is picked.
  SetBlk: A cell that is set leaves the other blocks.
-/
import Derived.Test.YtoefogmjekcbeaaPk27
import Derived.Test.YtoefogmjekcbeaaPk02
import Derived.Test.YtoefogmjekcbeaaPk18
import Derived.Test.YtoefogmjekcbeaaPk25
namespace Go.Proofs.Ytoefogmjekcbeaa
open Go.ChangeShapes Go.WideShapes Go.RowKit
set_option linter.unusedVariables false

theorem octs_in {H : Type} {enc : TypeId × Value → H} {w : World} {sp : Nat → Bool} {held : Bool} {fuel : Nat} {a : Option Addr} {len cap : Nat} {x : DataW H × List MemPlace} (h : DataW.trod enc Try.prog w 0 sp held fuel 25 [.slice a len cap] = some x) :
    ∃ l : List Nat, l.length = len ∧ Lv yK w w.heap.size (.slice a len cap) l :=
  lv_open yK (by kernel_rfl) (fun fuel cs x h => by
    obtain ⟨n, rfl, _, hw⟩ := DataW.trod_int Try.underlying5 h
    have hb := bounds_u8 hw
    obtain ⟨t, rfl⟩ := Int.eq_ofNat_of_zero_le hb.1
    exact ⟨t, (by show _ < _; omega), rfl⟩) h
end Go.Proofs.Ytoefogmjekcbeaa
namespace Go.Proofs.Ytoefogmjekcbeaa.Rt
/-- Pick, of the page of r's place and of the other place's page. -/
def pk (k : Nat) (a b : List Nat) : Root × Nat := if k = 0 then pickE a b else pickE b a
theorem pk_both {r s : Root} {k : Nat} {a b : List Nat} (hk : k = 0 ∨ k = 1) (hq : s.seq = r.seq + 1) (ha : getE (k : Nat) a = (r, 0)) (hb : getE ((1 - k : Nat) : Int) b = (s, 0)) : pk k a b = (s, 0) := by
  unfold pk pickE
  rcases hk with rfl | rfl
  · have h0 : getE 0 a = (r, 0) := ha
    have h1 : getE 1 b = (s, 0) := hb
    simp only [h0, h1]
    rw [if_pos trivial, if_neg (by simp), if_neg (by omega)]
  · have h0 : getE 1 a = (r, 0) := ha
    have h1 : getE 0 b = (s, 0) := hb
    simp only [h0, h1]
    rw [if_neg (by omega), if_neg (by simp), if_pos ⟨trivial, .inr (by show r.seq < s.seq; omega)⟩]
theorem pk_first {r x : Root} {k e : Nat} {a b : List Nat} (hk : k = 0 ∨ k = 1) (he : e ≠ 0) (ha : getE (k : Nat) a = (r, 0)) (hb : getE ((1 - k : Nat) : Int) b = (x, e)) : pk k a b = (r, 0) := by
  unfold pk pickE
  rcases hk with rfl | rfl
  · have h0 : getE 0 a = (r, 0) := ha
    have h1 : getE 1 b = (x, e) := hb
    simp only [h0, h1]
    rw [if_pos trivial, if_neg (by simp), if_pos ⟨trivial, .inl he⟩]
  · have h0 : getE 1 a = (r, 0) := ha
    have h1 : getE 0 b = (x, e) := hb
    simp only [h0, h1]
    rw [if_neg (by omega), if_neg (by simp), if_neg (fun h => he h.1)]
theorem pk_second {s x : Root} {k e : Nat} {a b : List Nat} (hk : k = 0 ∨ k = 1) (he : e ≠ 0) (ha : getE (k : Nat) a = (x, e)) (hb : getE ((1 - k : Nat) : Int) b = (s, 0)) : pk k a b = (s, 0) := by
  unfold pk pickE
  rcases hk with rfl | rfl
  · have h0 : getE 0 a = (x, e) := ha
    have h1 : getE 1 b = (s, 0) := hb
    simp only [h0, h1]
    rw [if_pos trivial, if_neg (fun h => h.2 rfl), if_neg (fun h => he h.1)]
  · have h0 : getE 1 a = (x, e) := ha
    have h1 : getE 0 b = (s, 0) := hb
    simp only [h0, h1]
    rw [if_neg (by omega), if_neg (fun h => h.1 rfl), if_pos ⟨trivial, .inl he⟩]
theorem get_put {r : Root} {P : List Nat} (h : putE r = (P, 0)) : getE ((r.seq % 2 : Nat) : Int) P = (r, 0) := by
  obtain ⟨P', -, h1, h2⟩ := put_page (page_len h).2
  rw [h] at h1
  simp only [Prod.mk.injEq, and_true] at h1
  rw [h1]; exact h2
theorem back {r s : Root} {P Q : List Nat} (hP : putE r = (P, 0)) (hQ : putE s = (Q, 0)) (hq : s.seq = r.seq + 1) :
    pk (r.seq % 2) P Q = (s, 0) ∧ ∀ p y, p < 512 → y < 256 → (Q[p]? ≠ some y → pk (r.seq % 2) P (Q.set p y) = (r, 0)) ∧ (P[p]? ≠ some y → pk (r.seq % 2) (P.set p y) Q = (s, 0)) := by
  have hk : r.seq % 2 = 0 ∨ r.seq % 2 = 1 := by omega
  have e1 : s.seq % 2 = 1 - r.seq % 2 := by omega
  have g1 := get_put hP
  have g2 := get_put hQ
  rw [e1] at g2
  refine ⟨pk_both hk hq g1 g2, fun p y hp hy => ⟨fun h => ?_, fun h => ?_⟩⟩
  · obtain ⟨e, he, h1⟩ := one (page_len hQ).2 hQ hp hy h
    rw [e1] at h1
    exact pk_first hk he g1 h1
  · obtain ⟨e, he, h1⟩ := one (page_len hP).2 hP hp hy h
    exact pk_second hk he h1 g2
theorem set_same {l : List Nat} {p x : Nat} (h : l[p]? = some x) : l.set p x = l := by
  obtain ⟨hp, rfl⟩ := List.getElem?_eq_some_iff.1 h
  exact List.set_getElem_self hp
end Go.Proofs.Ytoefogmjekcbeaa.Rt
namespace Go.Proofs.Ytoefogmjekcbeaa
theorem or1_u8 (a : Nat) (ha : a < 256) : bits .or .u8 (a : Int) 1 = ((a ||| 1 : Nat) : Int) := by
  have hx : a ||| 1 < 2 ^ 8 := Nat.or_lt_two_pow (by omega) (by omega)
  have h1 : (BitVec.ofInt 8 (a : Int)).toNat = a := by
    rw [BitVec.ofInt_natCast, BitVec.toNat_ofNat]; exact Nat.mod_eq_of_lt (by omega)
  have h2 : (BitVec.ofInt 8 (1 : Int)).toNat = 1 := by decide
  show IntKind.u8.wrap ((BitVec.ofInt 8 (a : Int) ||| BitVec.ofInt 8 (1 : Int)).toNat : Int) = _
  rw [BitVec.toNat_or, h1, h2, IntKind.wrap_u8]
  omega
end Go.Proofs.Ytoefogmjekcbeaa
namespace Go.Proofs.Ytoefogmjekcbeaa
theorem setCell_block (w : World) (g k j : Nat) (v : Value) (h : k ≠ g) : (w.setCell ⟨g, j, none⟩ v).heap[k]? = w.heap[k]? := by
  unfold World.setCell
  simp only [Array.getElem?_modify, Ne.symm h, if_false]
end Go.Proofs.Ytoefogmjekcbeaa
