/-
  The program's queue of int: drop.
-/
import Derived.Test.YtiogmgpkaiicpaaQuSinkI
namespace Go.Proofs.Ytiogmgpkaiicpaa
open Go.RowKit
set_option linter.unusedVariables false

set_option maxHeartbeats 4000000 in
theorem pdropI {w : World} {qb g j c m fn : Nat} {caps : Array Value} {A : List (Int × Nat)} {lt : Int → Int → Bool} (h : HasI w qb g (j + 1) c A m fn caps) (ho : Qu.Order lt) (hl : Less intV I64 fn caps lt w (fun k => k = qb ∨ k = g)) (hh : Qu.IsHeap lt A) (hn : j + 1 ≤ 8388608) {r : Int × Nat} (hr : A[0]? = some r) :
    Calls Try.prog 36 #[.pointer (some ⟨qb, 0, none⟩)] w (fun e w' => e = .returned (.tuple #[]) ∧ ∃ A', (r :: A').Perm A ∧ Qu.IsHeap lt A' ∧ HasI w' qb g j c A' m fn caps ∧ Turned (fun k => k = qb ∨ k = g) w w') := by
  have hlen := h.len
  obtain ⟨⟨zt, zn⟩, hz⟩ : ∃ z, A[j]? = some z := ⟨_, List.getElem?_eq_getElem (by omega)⟩
  obtain ⟨
  z0,
  z1,
  hzo⟩ := h.has hz
  simp only at z0
  simp only at z1
  obtain ⟨
  r0,
  r1,
  hro⟩ := h.has hr
  simp only [Nat.zero_mul, Nat.zero_add] at r0
  simp only [Nat.zero_mul, Nat.zero_add] at r1
  have hd1 := h.head.list
  have hcool := h.own.cool_
  have f0 := hcool 0
  have f1 := hcool 1
  obtain ⟨hs1, ht1⟩ := h.set (j := 0) (by omega) hzo
  simp only [Nat.zero_mul, Nat.zero_add] at hs1 ht1
  have hs1 := hs1.drew_
  have ht1 := ht1.drew
  have hp := Qu.pop_perm (z := (zt, zn)) hr (by rw [hlen]; exact hz)
  rw [hlen] at hp
  have HP := Lib.hid hp
  have hdn := Qu.Down.pop hh (zt, zn)
  rw [hlen] at hdn
  have HDN := Lib.hid hdn
  have HL := Lib.hid hl
  have HO := Lib.hid ho
  have HNE := Lib.hid h.apart
  have HLEN := Lib.hid hlen
  obtain ⟨n, hnn⟩ : ∃ n, j + 1 = n := ⟨_, rfl⟩
  rw [hnn] at hd1 hs1
  have hj : (j : Int) < (n : Int) := by omega
  have h0 : (0 : Int) < (n : Int) := by omega
  have h0n : 0 < n := by omega
  have hwj : IntKind.i64.wrap ((n : Int) - 1) = (j : Int) := by rw [IntKind.wrap_i64]; omega
  have HS1 := Lib.hid hs1
  have HT1 := Lib.hid ht1
  have HN := Lib.hid hnn
  clear hs1 ht1 hp hdn hr hz hl ho hh hzo hro h hlen hcool hnn
  go_enter Try.func36, Try.ntmps36
  go_wp2_with (fail)
  go_region
  generalize ((w.setCell ⟨g, 0, none⟩ (.int .i64 zt)).setCell ⟨g, 1, none⟩ (.int .u64 (zn : Nat))).drew = w2 at *
  clear hd1
  clear z0 f0 r0
  clear z1 f1 r1
  have hd1 := HS1.out.head.list
  have hcool := HS1.out.own.cool_
  obtain ⟨⟨ot, on⟩, hor⟩ : ∃ r, (A.set 0 (zt, zn))[j]? = some r := ⟨_, List.getElem?_eq_getElem (by rw [List.length_set]; have := HLEN.out; omega)⟩
  obtain ⟨
  o0,
  o1,
  hoo⟩ := HS1.out.has hor
  simp only at o0
  simp only at o1
  have f0 := hcool (j * 2)
  have f1 := hcool (j * 2 + 1)
  obtain ⟨hs3, ht3⟩ := HS1.out.set (j := j) (by have := HN.out; omega) (x := (0, 0)) qIK.okz
  have ht3 := HT1.out.trans ht3 (fun _ _ h => h)
  obtain ⟨w3, hw3⟩ : ∃ w3, (w2.setCell ⟨g, j * 2, none⟩ (.int .i64 0)).setCell ⟨g, j * 2 + 1, none⟩ (.int .u64 0) = w3 := ⟨_, rfl⟩
  have hs3' : HasI w3 qb g n c ((A.set 0 (zt, zn)).set j (0, 0)) m fn caps := by rw [← hw3]; exact hs3
  have HT3' : Hid (Turned (fun k => k = qb ∨ k = g) w w3) := by rw [← hw3]; exact ht3
  have c3 := hs3'.head.list
  have f9 := hs3'.head.cool 1
  have ht4 := HT3'.out.setCell (p := ⟨qb, 1, none⟩) (fun _ => .inl rfl) (.slice (some ⟨g, 0, none⟩) j c)
  have hh4 := hs3'.head.setList (.slice (some ⟨g, 0, none⟩) j c)
  have ho4 := (hs3'.own.take_ (k := j) (by have := HLEN.out; simp; omega)).of_block (w' := w3.setCell ⟨qb, 1, none⟩ (.slice (some ⟨g, 0, none⟩) j c)) (fun k hk => heap_setCell_other _ _ _ _ (by have e : g = k := Option.some.inj hk; have := HNE.out; show k ≠ qb; omega))
  obtain ⟨w4, hw4⟩ : ∃ w4, w3.setCell ⟨qb, 1, none⟩ (.slice (some ⟨g, 0, none⟩) j c) = w4 := ⟨_, rfl⟩
  rw [hw4] at ht4 hh4 ho4
  have htk : ((A.set 0 (zt, zn)).set j (0, 0)).take j = (A.set 0 (zt, zn)).take j := List.take_set_of_le (Nat.le_refl _)
  rw [htk] at ho4
  have hq4 : HasI w4 qb g j c ((A.set 0 (zt, zn)).take j) m fn caps := ⟨hh4, ho4, HNE.out, by have := HLEN.out; simp; omega⟩
  have HDW := Lib.hid (psinkI hq4 HO.out (HL.out.step ht4 (fun _ _ h => h)) HDN.out (by omega))
  have HT4 := Lib.hid ht4
  have hbd : (j : Int) ≤ (c : Int) := by have := hs3'.own.form_.len_; have := HN.out; omega
  clear hor hoo hs3 ht3 hs3' ht4 hh4 ho4 hq4 htk HT3' HDN hcool
  go_wp2_with (fail)
  refine (HDW.out).mono ?_
  rintro e w5 ⟨rfl, A2, hp2, hheap, hq5, ht5⟩
  have HE := Lib.hid (show ∃ A', (r :: A').Perm A ∧ Qu.IsHeap lt A' ∧ HasI w5 qb g j c A' m fn caps ∧ Turned (fun k => k = qb ∨ k = g) w w5 from
    ⟨A2, (hp2.cons _).trans HP.out, hheap, hq5, HT4.out.trans ht5 (fun _ _ h => h)⟩)
  clear hp2 hheap hq5 ht5 HDW HT4 c3 f9 hd1
  go_wp2
  go_end0
  exact ⟨rfl, HE.out⟩

end Go.Proofs.Ytiogmgpkaiicpaa
