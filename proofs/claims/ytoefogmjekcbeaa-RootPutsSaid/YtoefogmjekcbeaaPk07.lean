/-
  Cut: A cut of a slice of bytes.
  EqB: Arrays of bytes, compared: their cells.
  Eq4: Arrays of four bytes: of a slice of four; two of them compared.
-/
import Derived.Test.YtoefogmjekcbeaaPk01
import Derived.Stop.BytesEq
namespace Go.Proofs.Ytoefogmjekcbeaa
theorem Bv.cut_ {w : World} {B b off n c : Nat} {l : List Nat} (h : Bv w B (.slice (some ⟨b, off, none⟩) n c) l) {k m : Nat} (hk : k + m ≤ l.length) :
    Bv w B (.slice (some ⟨b, off + k, none⟩) m (c - k)) ((l.drop k).take m) := by
  obtain ⟨A', c', e, h1, h2, h3, h4, h5⟩ := h
  injection e with e1 e2 e3
  subst e1 e3
  have hlen : ((l.drop k).take m).length = m := by rw [List.length_take, List.length_drop]; omega
  refine ⟨some ⟨b, off + k, none⟩, c - k, by rw [hlen], by omega, by omega, by simp, fun x hx => h4 x (List.mem_of_mem_drop (List.mem_of_mem_take hx)), fun hp => ?_⟩
  obtain ⟨b', off', e, hb, hc⟩ := h5 (by omega)
  injection e with e
  injection e with e4 e5
  subst e4 e5
  refine ⟨b, off + k, rfl, hb, fun j u hj => ?_⟩
  have h6 := hc (k + j) u (by
    rw [List.getElem?_take] at hj
    split at hj
    · rw [List.getElem?_drop] at hj; exact hj
    · cases hj)
  rw [← h6]
  congr 2
  omega
end Go.Proofs.Ytoefogmjekcbeaa
namespace Go.Proofs.Ytoefogmjekcbeaa
open Go.RowKit
set_option linter.unusedVariables false

theorem cells_u8 {l : List Nat} (h : ∀ x ∈ l, x < 256) : (l.map UInt8.ofNat).map Extern.Stop.cell = l.map u8 := by
  rw [List.map_map]
  refine List.map_congr_left fun x hx => ?_
  have := h x hx
  simp [Extern.Stop.cell, u8]
  omega
theorem u8_inj {l : List Nat} : ∀ {m : List Nat}, (∀ x ∈ l, x < 256) → (∀ x ∈ m, x < 256) → ((l.map UInt8.ofNat == m.map UInt8.ofNat) = decide (l = m)) := by
  induction l with
  | nil => intro m _ _; cases m <;> simp
  | cons x l ih =>
    intro m hl hm
    cases m with
    | nil => simp
    | cons y m =>
      have hx := hl x (by simp)
      have hy := hm y (by simp)
      have e : (UInt8.ofNat x == UInt8.ofNat y) = decide (x = y) := by
        rw [Bool.eq_iff_iff]
        simp [← UInt8.toNat_inj]
        omega
      rw [List.map_cons, List.map_cons, List.cons_beq_cons, ih (fun z hz => hl z (by simp [hz])) (fun z hz => hm z (by simp [hz])), e]
      rw [Bool.eq_iff_iff]
      simp
theorem size_of5 (w : World) : (sizeOf 5).run Try.prog w = .ok 1 w := by
  obtain ⟨i, hi, _, hs, _⟩ := info_parts info5
  simp [sizeOf, typeInfo, hi, hs]
end Go.Proofs.Ytoefogmjekcbeaa
namespace Go.Proofs.Ytoefogmjekcbeaa
open Go.RowKit
set_option linter.unusedVariables false

theorem array_at (a : Addr) (w : World) : (Instr.arrayAt 53 (.slice (some a) 4 4)).run Try.prog w = .ok (.pointer (some a)) w := by
  simp [Instr.arrayAt, run_underlying Try.underlying53]
theorem equal4 {s t : List Nat} (hs : s.length = 4) (ht : t.length = 4) (hs8 : ∀ x ∈ s, x < 256) (ht8 : ∀ x ∈ t, x < 256) (w : World) :
    (Op.equalIn 10000 53 (.agg (s.map u8).toArray) (.agg (t.map u8).toArray)).run Try.prog w = .ok (decide (s = t)) w := by
  have h := run_equalIn_bytes (P := Try.prog) w 9998 53 5 4 Try.underlying53 Try.underlying5 size_of5 (s.map UInt8.ofNat) (t.map UInt8.ofNat) (by simpa using hs) (by simpa using ht)
  rw [cells_u8 hs8, cells_u8 ht8, u8_inj hs8 ht8] at h
  exact h
end Go.Proofs.Ytoefogmjekcbeaa
