/- Parts of the proof. -/
import Derived.Outline
import Derived.Test.YtiafeniflkikeaaGreatPn01
import Derived.Test.YtiafeniflkikeaaGreatProg
import Derived.Test.YtiafeniflkikeaaGreatPn06
import Derived.Test.YtiafeniflkikeaaGreatPn04
namespace Go.Proofs.YtiafeniflkikeaaGreat
def I64 (x : Int) : Prop := -9223372036854775808 ≤ x ∧ x < 9223372036854775808
end Go.Proofs.YtiafeniflkikeaaGreat
namespace Go.Proofs.YtiafeniflkikeaaGreat
open Go.RowKit
set_option linter.unusedVariables false
def iK : El Tryz.prog Int where
 e := 3
 s := 51
 size := 1
 bytes := 8
 zero := .int .i64 0
 z := 0
 enc := fun x => [.int .i64 x]
 ok := I64
 len := fun _ => rfl
 one := fun x u hu => by simp at hu; subst hu; rfl
 okz := by unfold I64; omega
 encz := rfl
 pos := by decide
 under := Tryz.underlying51
 info := by kernel_rfl
section
variable {w : World} {base B n c : Nat} {A : Option Addr} {l : List Int}
theorem Lv.int_ (h : Lv iK w B (.slice A n c) l) {k : Nat} (hk : k < l.length) :
  ∃ b off x, A = some ⟨b, off, none⟩ ∧ b < B ∧ I64 x ∧ l[k]? = some x ∧ w.cell? ⟨b, off + k, none⟩ = some (.int .i64 x) := by
 obtain ⟨b, off, x, h1, h2, h3, h4, h5⟩ := h.at_ hk
 have h6 := h5 0 (.int .i64 x) rfl
 refine ⟨b, off, x, h1, h2, h3, h4, ?_⟩
 have e : off + (k * iK.size + 0) = off + k := by show off + (k * 1 + 0) = _; omega
 rw [e] at h6
 exact h6
end
end Go.Proofs.YtiafeniflkikeaaGreat
namespace Go.Proofs.YtiafeniflkikeaaGreat
open Go.ChangeShapes Go.WideShapes Go.ChangeAt Go.RowKit
set_option linter.unusedVariables false
end Go.Proofs.YtiafeniflkikeaaGreat
namespace Go.Proofs.YtiafeniflkikeaaGreat.Pg
def head (n kind m : Nat) : List Nat := [n % 256, n / 256 % 256, n / 65536 % 256, n / 16777216 % 256, kind, 0, m % 256, m / 256 % 256]
def rest (n kind : Nat) (b : List Nat) : List Nat := head n kind b.length ++ b ++ List.replicate (500 - b.length) 0
def page (n kind : Nat) (b : List Nat) : List Nat := four (Cr.of (rest n kind b)) ++ rest n kind b
def putE (n : Int) (kind : Nat) (b : List Nat) : List Nat × Nat :=
 if n < 0 ∨ 65536 ≤ n then ([], 2) else if 496 < b.length then ([], 3) else (page n.toNat kind b, 0)
def size (b : List Nat) : Nat := b.getD 10 0 + 256 * b.getD 11 0
def body (b : List Nat) : List Nat := (b.drop 12).take (size b)
def getE (n : Int) (b : List Nat) : Nat × List Nat × Nat :=
 if n < 0 ∨ 65536 ≤ n then (0, [], 2) else if b.length < 512 then (0, [], 4) else if 512 < b.length then (0, [], 5)
 else if b.take 4 ≠ four (Cr.of (b.drop 4)) then (0, [], 6)
 else if 496 < size b then (0, [], 5)
 else if page n.toNat (b.getD 8 0) (body b) ≠ b then (0, [], 5)
 else (b.getD 8 0, body b, 0)
section
variable {n : Int} {k : Nat} {b : List Nat}
theorem putE_arg (h : n < 0 ∨ 65536 ≤ n) : putE n k b = ([], 2) := if_pos h
theorem putE_lim (h : ¬ (n < 0 ∨ 65536 ≤ n)) (hb : 496 < b.length) : putE n k b = ([], 3) := by unfold putE; rw [if_neg h, if_pos hb]
theorem putE_ok (h : ¬ (n < 0 ∨ 65536 ≤ n)) (hb : ¬ 496 < b.length) : putE n k b = (page n.toNat k b, 0) := by unfold putE; rw [if_neg h, if_neg hb]
theorem getE_arg (h : n < 0 ∨ 65536 ≤ n) : getE n b = (0, [], 2) := if_pos h
theorem getE_short (h : ¬ (n < 0 ∨ 65536 ≤ n)) (h1 : b.length < 512) : getE n b = (0, [], 4) := by unfold getE; rw [if_neg h, if_pos h1]
theorem getE_long (h : ¬ (n < 0 ∨ 65536 ≤ n)) (h1 : ¬ b.length < 512) (h2 : 512 < b.length) : getE n b = (0, [], 5) := by unfold getE; rw [if_neg h, if_neg h1, if_pos h2]
theorem getE_sum (h : ¬ (n < 0 ∨ 65536 ≤ n)) (h1 : ¬ b.length < 512) (h2 : ¬ 512 < b.length) (h3 : b.take 4 ≠ four (Cr.of (b.drop 4))) : getE n b = (0, [], 6) := by
 unfold getE; rw [if_neg h, if_neg h1, if_neg h2, if_pos h3]
theorem getE_size (h : ¬ (n < 0 ∨ 65536 ≤ n)) (h1 : ¬ b.length < 512) (h2 : ¬ 512 < b.length) (h3 : b.take 4 = four (Cr.of (b.drop 4))) (h4 : 496 < size b) : getE n b = (0, [], 5) := by
 unfold getE; rw [if_neg h, if_neg h1, if_neg h2, if_neg (by simpa using h3), if_pos h4]
theorem getE_form (h : ¬ (n < 0 ∨ 65536 ≤ n)) (h1 : ¬ b.length < 512) (h2 : ¬ 512 < b.length) (h3 : b.take 4 = four (Cr.of (b.drop 4))) (h4 : ¬ 496 < size b) (h5 : page n.toNat (b.getD 8 0) (body b) ≠ b) : getE n b = (0, [], 5) := by
 unfold getE; rw [if_neg h, if_neg h1, if_neg h2, if_neg (by simpa using h3), if_neg h4, if_pos h5]
theorem getE_ok (h : ¬ (n < 0 ∨ 65536 ≤ n)) (h1 : ¬ b.length < 512) (h2 : ¬ 512 < b.length) (h3 : b.take 4 = four (Cr.of (b.drop 4))) (h4 : ¬ 496 < size b) (h5 : page n.toNat (b.getD 8 0) (body b) = b) : getE n b = (b.getD 8 0, body b, 0) := by
 unfold getE; rw [if_neg h, if_neg h1, if_neg h2, if_neg (by simpa using h3), if_neg h4, if_neg (by simpa using h5)]
end
theorem head_len (n k m : Nat) : (head n k m).length = 8 := rfl
theorem head_lt {n k m : Nat} (hk : k < 256) : ∀ x ∈ head n k m, x < 256 := by
 intro x hx
 simp only [head, List.mem_cons, List.not_mem_nil, or_false] at hx
 rcases hx with rfl | rfl | rfl | rfl | rfl | rfl | rfl | rfl <;> omega
theorem rest_len {n k : Nat} {b : List Nat} (hb : b.length ≤ 496) : (rest n k b).length = 508 := by
 simp only [rest, List.length_append, head_len, List.length_replicate]; omega
theorem rest_lt {n k : Nat} {b : List Nat} (hk : k < 256) (hb : ∀ x ∈ b, x < 256) : ∀ x ∈ rest n k b, x < 256 := by
 intro x hx
 rcases List.mem_append.1 hx with h | h
 ·rcases List.mem_append.1 h with h | h
  ·exact head_lt hk x h
  ·exact hb x h
 ·rw [List.eq_of_mem_replicate h]; omega
theorem page_len {n k : Nat} {b : List Nat} (hb : b.length ≤ 496) : (page n k b).length = 512 := by
 rw [page, List.length_append, rest_len hb]; rfl
theorem page_lt {n k : Nat} {b : List Nat} (hk : k < 256) (hb : ∀ x ∈ b, x < 256) : ∀ x ∈ page n k b, x < 256 := by
 intro x hx
 rcases List.mem_append.1 hx with h | h
 ·exact four_lt _ x h
 ·exact rest_lt hk hb x h
theorem page_take (n k : Nat) (b : List Nat) : (page n k b).take 4 = four (Cr.of (rest n k b)) := List.take_left' rfl
theorem page_drop (n k : Nat) (b : List Nat) : (page n k b).drop 4 = rest n k b := List.drop_left' rfl
theorem page_at (n k : Nat) (b : List Nat) {i : Nat} (hi : i < 8) : (page n k b).getD (4 + i) 0 = (head n k b.length).getD i 0 := by
 have h1 : (page n k b)[4 + i]? = (head n k b.length)[i]? := by
  rw [← List.getElem?_drop, page_drop, rest, List.append_assoc, List.getElem?_append_left (by rw [head_len]; exact hi)]
 rw [List.getD_eq_getElem?_getD, List.getD_eq_getElem?_getD, h1]
theorem page_size {n k : Nat} {b : List Nat} (hb : b.length ≤ 496) : size (page n k b) = b.length := by
 unfold size
 have h6 := page_at n k b (i := 6) (by omega)
 have h7 := page_at n k b (i := 7) (by omega)
 rw [show 10 = 4 + 6 from rfl, show 11 = 4 + 7 from rfl, h6, h7]
 show b.length % 256 + 256 * (b.length / 256 % 256) = _
 omega
theorem page_body {n k : Nat} {b : List Nat} (hb : b.length ≤ 496) : body (page n k b) = b := by
 unfold body
 rw [page_size hb, show 12 = 4 + 8 from rfl, ← List.drop_drop, page_drop, rest, List.append_assoc, List.drop_left' (head_len _ _ _), List.take_left' rfl]
theorem page_kind (n k : Nat) (b : List Nat) : (page n k b).getD 8 0 = k := page_at n k b (i := 4) (by omega)
theorem getE_put {n : Int} {k : Nat} {b p : List Nat} (h : putE n k b = (p, 0)) : getE n p = (k, b, 0) ∧ p = page n.toNat k b ∧ b.length ≤ 496 ∧ 0 ≤ n ∧ n < 65536 := by
 by_cases h1 : n < 0 ∨ 65536 ≤ n
 ·rw [putE_arg h1] at h; simp at h
 ·by_cases h2 : 496 < b.length
  ·rw [putE_lim h1 h2] at h; simp at h
  ·rw [putE_ok h1 h2] at h
   simp only [Prod.mk.injEq, and_true] at h
   subst h
   have hl := page_len (n := n.toNat) (k := k) (show b.length ≤ 496 by omega)
   refine ⟨?_, rfl, by omega, by omega, by omega⟩
   have hk := page_kind n.toNat k b
   have hb := page_body (n := n.toNat) (k := k) (show b.length ≤ 496 by omega)
   have hs := page_size (n := n.toNat) (k := k) (show b.length ≤ 496 by omega)
   have := getE_ok (n := n) (b := page n.toNat k b) h1 (by omega) (by omega) (by rw [page_take, page_drop]) (by rw [hs]; omega) (by rw [hk, hb])
   rwa [hk, hb] at this
theorem putE_get {n : Int} {k : Nat} {b c : List Nat} (h : getE n b = (k, c, 0)) : putE n k c = (b, 0) := by
 by_cases h0 : n < 0 ∨ 65536 ≤ n
 ·rw [getE_arg h0] at h; simp at h
 by_cases h1 : b.length < 512
 ·rw [getE_short h0 h1] at h; simp at h
 by_cases h2 : 512 < b.length
 ·rw [getE_long h0 h1 h2] at h; simp at h
 by_cases h3 : b.take 4 = four (Cr.of (b.drop 4))
 ·by_cases h4 : 496 < size b
  ·rw [getE_size h0 h1 h2 h3 h4] at h; simp at h
  by_cases h5 : page n.toNat (b.getD 8 0) (body b) = b
  ·rw [getE_ok h0 h1 h2 h3 h4 h5] at h
   simp only [Prod.mk.injEq, and_true] at h
   obtain ⟨rfl, rfl⟩ := h
   have hl : (body b).length ≤ 496 := by unfold body; rw [List.length_take]; omega
   rw [putE_ok h0 (by omega), h5]
  ·rw [getE_form h0 h1 h2 h3 h4 h5] at h; simp at h
 ·rw [getE_sum h0 h1 h2 h3] at h; simp at h
theorem getE_bad {n : Int} {k e : Nat} {b c : List Nat} (h : getE n b = (k, c, e)) (he : e ≠ 0) : k = 0 ∧ c = [] := by
 by_cases h0 : n < 0 ∨ 65536 ≤ n
 ·rw [getE_arg h0] at h; simp only [Prod.mk.injEq] at h; exact ⟨h.1.symm, h.2.1.symm⟩
 by_cases h1 : b.length < 512
 ·rw [getE_short h0 h1] at h; simp only [Prod.mk.injEq] at h; exact ⟨h.1.symm, h.2.1.symm⟩
 by_cases h2 : 512 < b.length
 ·rw [getE_long h0 h1 h2] at h; simp only [Prod.mk.injEq] at h; exact ⟨h.1.symm, h.2.1.symm⟩
 by_cases h3 : b.take 4 = four (Cr.of (b.drop 4))
 ·by_cases h4 : 496 < size b
  ·rw [getE_size h0 h1 h2 h3 h4] at h; simp only [Prod.mk.injEq] at h; exact ⟨h.1.symm, h.2.1.symm⟩
  by_cases h5 : page n.toNat (b.getD 8 0) (body b) = b
  ·rw [getE_ok h0 h1 h2 h3 h4 h5] at h
   simp only [Prod.mk.injEq] at h
   omega
  ·rw [getE_form h0 h1 h2 h3 h4 h5] at h; simp only [Prod.mk.injEq] at h; exact ⟨h.1.symm, h.2.1.symm⟩
 ·rw [getE_sum h0 h1 h2 h3] at h; simp only [Prod.mk.injEq] at h; exact ⟨h.1.symm, h.2.1.symm⟩
end Go.Proofs.YtiafeniflkikeaaGreat.Pg
