/-
  CFrame: From what a row says of its arguments to the words of chapter 2's text: numbers of 32 and of 8 bits.
  Heap: A slice of the call's own that is known to its room's end: its block, and copy into it.
  Set: One byte of a slice of the call's own: read, and set.
-/
import Derived.Test.YtoefogmjekcbeaaPk24
import Derived.Test.YtoefogmjekcbeaaPk04
import Derived.Test.YtoefogmjekcbeaaPk01
import Derived.Laws.CopyOwn
namespace Go.Proofs.Ytoefogmjekcbeaa
open Go.ChangeShapes Go.WideShapes Go.ChangeAt Go.RowKit

theorem u32_nat {a : Int} (h : (Lit.int .u32 a).wf = true) : ∃ n : Nat, a = (n : Int) ∧ Cr.B32 n := by
  have hb := bounds_u32 h
  obtain ⟨n, rfl⟩ := Int.eq_ofNat_of_zero_le hb.1
  exact ⟨n, rfl, by unfold Cr.B32; omega⟩
end Go.Proofs.Ytoefogmjekcbeaa
namespace Go.Proofs.Ytoefogmjekcbeaa
open Go.RowKit
set_option linter.unusedVariables false

theorem OwnB.of_heap {w : World} {base g : Nat} {l : List Nat} (hb : base ≤ g) (hl : ∀ x ∈ l, x < 256) (hm : l.length ≤ maxLen) (h : w.heap[g]? = some (.cells (l.map u8).toArray 5 (0, 0))) :
    OwnB w base (.slice (some ⟨g, 0, none⟩) l.length l.length) l :=
  ⟨hl, by simp, .inr ⟨g, l.length, (l.map u8).toArray, rfl, hb, h, Nat.le_refl _, hm, by simp, by rw [Nat.mul_one]; exact List.take_of_length_le (by simp)⟩⟩
theorem OwnB.heap_ {w : World} {base g : Nat} {l : List Nat} (h : OwnB w base (.slice (some ⟨g, 0, none⟩) l.length l.length) l) : base ≤ g ∧ w.heap[g]? = some (.cells (l.map u8).toArray 5 (0, 0)) := by
  rcases h.2.2 with ⟨e, _⟩ | ⟨g', cap, cur, e, hb, hh, _, _, hs, ht⟩
  · cases e
  · injection e with e1 e2 e3
    injection e1 with e1
    injection e1 with e1
    subst e1 e3
    refine ⟨hb, ?_⟩
    rw [hh]
    congr 2
    rw [List.take_of_length_le (by rw [Array.length_toList]; omega)] at ht
    rw [← ht]
theorem zeros_heap {w : World} {base g n : Nat} (h : w.ownsRow base 5 1 (.slice (some ⟨g, 0, none⟩) n n) n (madeCells (Value.int .u8 0).cells (n * 1)).toList) :
    w.heap[g]? = some (.cells (List.replicate n (Value.int .u8 0)).toArray 5 (0, 0)) := by
  have e : (madeCells (Value.int .u8 0).cells (n * 1)).toList = (List.replicate n 0).map u8 := by
    rw [Nat.mul_one]
    show (madeCells #[Value.int .u8 0] n).toList = _
    rw [toList_madeCells_one, List.map_replicate]; rfl
  rw [e] at h
  have hl : (List.replicate n 0).length = n := List.length_replicate
  have hO : OwnB w base (.slice (some ⟨g, 0, none⟩) (List.replicate n 0).length (List.replicate n 0).length) (List.replicate n 0) := by
    refine ⟨fun x hx => by rw [List.eq_of_mem_replicate hx]; decide, ?_⟩
    rw [hl]; exact h
  have h2 := hO.heap_.2
  rw [List.map_replicate] at h2
  exact h2

theorem size5 : (Try.prog.info? 5).map (·.size) = some 1 := by kernel_rfl
/-- copy into a slice of the call's own, from place k on. -/
theorem copy_own {w : World} {base g : Nat} {z m : List Nat} {B k dl dc : Nat} {x : Value} (h : OwnB w base (.slice (some ⟨g, 0, none⟩) z.length z.length) z) (hm : z.length ≤ maxLen) (hx : Bv w B x m) (hfit : k + m.length ≤ z.length) (hd : m.length ≤ dl) :
    ∃ w2, (Builtin.copy_ #[25, 25] 3 #[.slice (some ⟨g, k, none⟩) dl dc, x]).run Try.prog w = .ok (.int .i64 (m.length : Nat)) w2 ∧
      OwnB w2 base (.slice (some ⟨g, 0, none⟩) z.length z.length) (z.take k ++ m ++ z.drop (k + m.length)) ∧ w.grownBy w2 (some g) := by
  obtain ⟨A, c, rfl, _, _, _, hb⟩ := hx
  obtain ⟨hbg, hh⟩ := h.heap_
  by_cases h0 : 0 < m.length
  · obtain ⟨b, off, rfl, _, hc⟩ := hb.2 h0
    have hsrc : ∀ j v, (m.map u8)[j]? = some v → w.cell? ((⟨b, off, none⟩ : Addr).add j) = some v := by
      intro j v hv
      rw [List.getElem?_map] at hv
      cases hj : m[j]? with
      | none => rw [hj] at hv; cases hv
      | some y =>
        rw [hj] at hv
        have ea : (⟨b, off, none⟩ : Addr).add j = ⟨b, off + j, none⟩ := by unfold Addr.add; split <;> simp_all
        rw [ea, hc j y hj]
        simpa [u8] using hv
    have hrun := run_copy_row (P := Try.prog) w 25 25 3 5 g k dl dc ⟨b, off, none⟩ m.length c _ 5 (m.map u8) Try.underlying25 size5 hh
      (by rw [List.length_map]; exact (Nat.min_eq_left hd).symm) hsrc (by simpa using hfit) (by intro u hu; obtain ⟨_, _, rfl⟩ := List.mem_map.1 hu; rfl)
    have hlen : (z.take k ++ m ++ z.drop (k + m.length)).length = z.length := by simp; omega
    have h2 := setRow_heap w g _ ((z.take k ++ m ++ z.drop (k + m.length)).map u8).toArray _ _ hh
    have e : ((z.map u8).toArray.toList.take k ++ m.map u8 ++ (z.map u8).toArray.toList.drop (k + (m.map u8).length)).toArray = ((z.take k ++ m ++ z.drop (k + m.length)).map u8).toArray := by
      simp [List.map_take, List.map_drop]
    rw [e] at hrun
    refine ⟨w.setRow g ((z.take k ++ m ++ z.drop (k + m.length)).map u8).toArray, ?_, ?_, ⟨rfl, rfl, rfl, by simp, fun i _ hi => setRow_other w g i _ (fun e => hi (by rw [e]))⟩⟩
    · rw [hrun, List.length_map]; rfl
    have h3 := OwnB.of_heap (l := z.take k ++ m ++ z.drop (k + m.length)) hbg (by
      intro y hy
      rcases List.mem_append.1 hy with hy | hy
      · rcases List.mem_append.1 hy with hy | hy
        · exact h.1 y (List.mem_of_mem_take hy)
        · exact hb.1 y hy
      · exact h.1 y (List.mem_of_mem_drop hy)) (by rw [hlen]; exact hm) h2
    rw [hlen] at h3
    exact h3
  · obtain rfl : m = [] := List.eq_nil_of_length_eq_zero (by omega)
    have hrun := run_copy_none (P := Try.prog) w 25 25 3 5 (some ⟨g, k, none⟩) A dl dc 0 c Try.underlying25 size5 (by simp)
    refine ⟨w, by simpa [goInt] using hrun, ?_, ⟨rfl, rfl, rfl, Nat.le_refl _, fun _ _ _ => rfl⟩⟩
    simpa using h
end Go.Proofs.Ytoefogmjekcbeaa
namespace Go.Proofs.Ytoefogmjekcbeaa
open Go.RowKit
set_option linter.unusedVariables false

theorem OwnB.set_ {w : World} {base g c : Nat} {l : List Nat} (h : OwnB w base (.slice (some ⟨g, 0, none⟩) l.length c) l) (j : Nat) {x : Nat} (hx : x < 256) :
    OwnB (w.setCell ⟨g, j, none⟩ (.int .u8 (x : Nat))) base (.slice (some ⟨g, 0, none⟩) (l.set j x).length c) (l.set j x) ∧ w.grownBy (w.setCell ⟨g, j, none⟩ (.int .u8 (x : Nat))) (some g) := by
  obtain ⟨h1, h2⟩ := h.2.stored j (.int .u8 (x : Nat))
  refine ⟨⟨fun y hy => ?_, ?_⟩, h2⟩
  · rcases List.mem_or_eq_of_mem_set hy with h3 | rfl
    · exact h.1 y h3
    · exact hx
  · rw [List.length_set]
    have e : (l.set j x).map u8 = (l.map u8).set j (.int .u8 (x : Nat)) := by rw [List.map_set]; rfl
    rw [e]
    exact h1

theorem xor_u8_nat (a b : Nat) (ha : a < 256) (hb : b < 256) : bits .xor .u8 (a : Int) (b : Int) = ((a ^^^ b : Nat) : Int) := by
  have hx : a ^^^ b < 2 ^ 8 := Nat.xor_lt_two_pow (by omega) (by omega)
  have h1 : (BitVec.ofInt 8 (a : Int)).toNat = a := by
    rw [BitVec.ofInt_natCast, BitVec.toNat_ofNat]; exact Nat.mod_eq_of_lt (by omega)
  have h2 : (BitVec.ofInt 8 (b : Int)).toNat = b := by
    rw [BitVec.ofInt_natCast, BitVec.toNat_ofNat]; exact Nat.mod_eq_of_lt (by omega)
  show IntKind.u8.wrap ((BitVec.ofInt 8 (a : Int) ^^^ BitVec.ofInt 8 (b : Int)).toNat : Int) = _
  rw [BitVec.toNat_xor, h1, h2, IntKind.wrap_u8]
  omega
theorem OwnB.at_ {w : World} {base c n : Nat} {A : Option Addr} {l : List Nat} (h : OwnB w base (.slice A n c) l) {k : Nat} (hk : k < l.length) :
    ∃ g x, A = some ⟨g, 0, none⟩ ∧ base ≤ g ∧ l.getD k 0 = x ∧ x < 256 ∧ w.cell? ⟨g, k, none⟩ = some (.int .u8 (x : Nat)) ∧ w.frozen? ⟨g, k, none⟩ = false := by
  rcases h.2.2 with ⟨e, h0⟩ | ⟨g, cap, cur, e, hb, _⟩
  · omega
  · injection e with e1 e2 e3
    subst e1 e2
    refine ⟨g, l[k], rfl, hb, by rw [List.getD_eq_getElem?_getD, List.getElem?_eq_getElem hk]; rfl, h.1 _ (List.getElem_mem hk), ?_, h.2.frozenAt k⟩
    rw [h.2.cellAt k (by omega), List.getElem?_map, List.getElem?_eq_getElem hk]; rfl
end Go.Proofs.Ytoefogmjekcbeaa
