/-
  From what a row says of its arguments to the words of this text: a list of rows of bytes.
-/
import Derived.Test.YtejipcnihgpdhaaBulk
import Derived.Test.YtejipcnihgpdhaaRowsG
import Derived.Test.YtejipcnihgpdhaaCat
import Derived.Deep.Matrix
namespace Go.Proofs.Ytejipcnihgpdhaa
open Go.ChangeShapes Go.WideShapes Go.ChangeAt Go.RowKit Go.Deep
set_option linter.unusedVariables false

theorem cat_bulk {H : Type} (f : Nat → List Nat) (g : Nat → DataW H) (rs : List Nat) : (∀ r ∈ rs, (f r).length ≤ Rows.uptoBulk (g r)) → (cat (rs.map f)).length ≤ Rows.uptoBulkAll (rs.map g) := by
  induction rs with
  | nil => intro _; simp [cat]
  | cons r rs ih =>
    intro h
    have h1 := ih (fun x hx => h x (by simp [hx]))
    have h2 := h r (by simp)
    simp only [List.map_cons, Rows.uptoBulkAll, cat, List.flatten_cons, List.length_append] at h1 ⊢
    omega

theorem rows_in {H : Type} {w : World} {base : Nat} {a : Addr} {len cap : Nat} {A : Nat → Option Addr} {L C : Nat → Nat} {Z : Nat → List Int} {d : DataW H} (hl : len ≤ cap) (hm : cap ≤ maxLen)
    (hd : d = .slice ((List.range len).map fun r => intRow .u8 (A r) (L r) (Z r)) ((List.range (cap - len)).map fun j => intRow .u8 (A (len + j)) (L (len + j)) (Z (len + j))))
    (h : ∀ r, r < cap → w.cell? (a.add r) = some (.slice (A r) (L r) (C r)) ∧ L r ≤ C r ∧ C r ≤ maxLen ∧ (Z r).length = C r ∧ (∀ n ∈ Z r, (Lit.int .u8 n).wf = true) ∧ (A r = none → C r = 0) ∧
        ∀ a', A r = some a' → base ≤ a'.block ∧ ∀ c, c < C r → w.cell? (a'.add c) = some (.int .u8 ((Z r).getD c 0))) :
    ∃ ls : List (List Nat), Rv w w.heap.size (.slice (some a) len cap) ls ∧ ls.length ≤ Rows.uptoBulk d ∧ (cat ls).length ≤ Rows.uptoBulk d := by
  have each : ∀ r, ∃ l : List Nat, r < len → l.length = L r ∧ Bv w w.heap.size (.slice (A r) (L r) (C r)) l := by
    intro r
    by_cases hr : r < len
    · obtain ⟨_, h1, h2, h3, h4, h5, h6⟩ := h r (by omega)
      have hb : ∃ l : List Nat, l.length = L r ∧ Bv w w.heap.size (.slice (A r) (L r) (C r)) l := by
        refine bytes_in ?_
        cases hA : A r with
        | none =>
          have := h5 hA
          exact .inl ⟨rfl, by omega, this⟩
        | some x =>
          obtain ⟨_, h7⟩ := h6 x hA
          exact .inr ⟨x, Z r, rfl, h1, h2, h3, fun i hi => h7 i (by omega), h4⟩
      obtain ⟨l, e⟩ := hb
      exact ⟨l, fun _ => e⟩
    · exact ⟨[], fun h => absurd h hr⟩
  let f : Nat → List Nat := fun r => Classical.choose (each r)
  have hf : ∀ r, r < len → (f r).length = L r ∧ Bv w w.heap.size (.slice (A r) (L r) (C r)) (f r) := fun r => Classical.choose_spec (each r)
  have hlen : ((List.range len).map f).length = len := by simp
  refine ⟨(List.range len).map f, ⟨some a, cap, by rw [hlen], by rw [hlen]; exact hl, hm, by simp, fun hp => ?_⟩, ?_, ?_⟩
  · rw [hlen] at hp
    obtain ⟨b, off, spot⟩ := a
    have hc := (h 0 (by omega)).1
    have hspot : spot = none := by simpa [Addr.add] using World.cell?_spot hc
    subst hspot
    refine ⟨b, off, rfl, ?_, fun j l hj => ?_⟩
    · rw [addr_add] at hc
      exact World.block_lt_of_cell? w _ hc
    · have hj' : j < len := by have := (List.getElem?_eq_some_iff.1 hj).1; omega
      rw [List.getElem?_map, List.getElem?_range hj'] at hj
      obtain rfl := Option.some.inj hj
      have hc2 := (h j (by omega)).1
      rw [addr_add] at hc2
      exact ⟨_, hc2, (hf j hj').2⟩
  · rw [hlen, hd]
    have := bulk_len ((List.range len).map fun r => intRow (H := H) .u8 (A r) (L r) (Z r))
    rw [List.length_map, List.length_range] at this
    simp only [Rows.uptoBulk]
    omega
  · rw [hd]
    have h1 := cat_bulk f (fun r => intRow (H := H) .u8 (A r) (L r) (Z r)) (List.range len) (fun r hr => by
      have hr' : r < len := List.mem_range.1 hr
      rw [(hf r hr').1]
      obtain ⟨_, h1, h2, h3, h4, h5, h6⟩ := h r (by omega)
      cases hA : A r with
      | none => have := h5 hA; omega
      | some x => exact bulk_ints _ _ _ (by omega))
    simp only [Rows.uptoBulk]
    omega
end Go.Proofs.Ytejipcnihgpdhaa
