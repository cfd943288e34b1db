/-
  Mathematics of QueueStays: numbers with their places, sorted by the numbers alone.
-/
import Derived.Test.YtiogmgpkaiicpaaQuMath
namespace Go.Proofs.Ytiogmgpkaiicpaa.Qu

def ltA (a b : Int × Int) : Bool := decide (a.1 < b.1)
theorem ltA_order : Order ltA where
  irr := fun a => by simp [ltA]
  trans := fun a c d h1 h2 => by simp only [ltA, decide_eq_true_eq] at *; omega
  alike := fun a c d h => by simp only [ltA, decide_eq_true_eq] at *; omega
/-- The first k numbers, each with its place. -/
def placed (l : List Nat) (k : Nat) : List (Int × Int) := (List.range k).map (fun i : Nat => (((l.getD i 0 : Nat) : Int), (i : Int)))
theorem placed_snoc (l : List Nat) (k : Nat) : placed l (k + 1) = placed l k ++ [(((l.getD k 0 : Nat) : Int), (k : Int))] := by simp [placed, List.range_succ]
theorem placed_mem {l : List Nat} {k : Nat} {y : Int × Int} (h : y ∈ placed l k) : 0 ≤ y.2 ∧ y.2 < k ∧ y.1 = ((l.getD y.2.toNat 0 : Nat) : Int) := by
  simp only [placed, List.mem_map, List.mem_range] at h
  obtain ⟨i, hi, rfl⟩ := h
  exact ⟨by simp, by simp; omega, by simp⟩
/-- Of alike ones the first place first. -/
def Lx (a b : Int × Int) : Prop := a.1 < b.1 ∨ a.1 = b.1 ∧ a.2 < b.2
theorem ins_lex {S : List (Int × Int)} (h : S.Pairwise Lx) {x : Int × Int} (hx : ∀ y ∈ S, y.2 < x.2) : (ins ltA S x).Pairwise Lx := by
  induction S with
  | nil => simp [ins]
  | cons y r ih =>
    have hp := List.pairwise_cons.1 h
    rw [ins_cons]
    by_cases hl : ltA x y = true
    · rw [if_pos hl]
      simp only [ltA, decide_eq_true_eq] at hl
      refine List.pairwise_cons.2 ⟨fun z hz => ?_, h⟩
      rcases List.mem_cons.1 hz with rfl | hz
      · exact .inl hl
      · rcases hp.1 z hz with h1 | h1
        · exact .inl (by omega)
        · exact .inl (by omega)
    · rw [if_neg hl]
      simp only [ltA, decide_eq_true_eq] at hl
      refine List.pairwise_cons.2 ⟨fun z hz => ?_, ih hp.2 (fun z hz => hx z (by simp [hz]))⟩
      rcases List.mem_cons.1 ((ins_perm r x).mem_iff.1 hz) with rfl | hz
      · have := hx y (by simp)
        unfold Lx; omega
      · exact hp.1 z hz
theorem stays_mem {l : List Nat} {k : Nat} {y : Int × Int} (h : y ∈ sorted ltA (placed l k)) : 0 ≤ y.2 ∧ y.2 < k ∧ y.1 = ((l.getD y.2.toNat 0 : Nat) : Int) := placed_mem ((sorted_perm _).mem_iff.1 h)
theorem stays_lex (l : List Nat) (k : Nat) : (sorted ltA (placed l k)).Pairwise Lx := by
  induction k with
  | zero => simp [placed, sorted]
  | succ k ih =>
    rw [placed_snoc, sorted_snoc]
    exact ins_lex ih (fun y hy => (stays_mem hy).2.1)
theorem placed_len (l : List Nat) (k : Nat) : (placed l k).length = k := by simp [placed]
theorem stays_len (l : List Nat) (k : Nat) : (sorted ltA (placed l k)).length = k := by rw [sorted_len, placed_len]
/-- The places, in the order in which they go out. -/
def places (S : List (Int × Int)) : List Int := S.map (·.2)
theorem places_perm (l : List Nat) (k : Nat) : (places (sorted ltA (placed l k))).Perm ((List.range k).map (fun i : Nat => (i : Int))) := by
  have h := (sorted_perm (lt := ltA) (placed l k)).map (·.2)
  have e : (placed l k).map (·.2) = (List.range k).map (fun i : Nat => (i : Int)) := by simp [placed]
  rw [e] at h
  exact h
theorem places_nodup (l : List Nat) (k : Nat) : (places (sorted ltA (placed l k))).Nodup := by
  refine (places_perm l k).nodup_iff.2 ?_
  exact List.Pairwise.map _ (fun a b h e => h (by exact_mod_cast e)) (List.nodup_range (n := k))
theorem places_all (l : List Nat) {k y : Nat} (h : y < k) : (y : Int) ∈ places (sorted ltA (placed l k)) := by
  refine (places_perm l k).mem_iff.2 ?_
  exact List.mem_map.2 ⟨y, List.mem_range.2 h, rfl⟩
/-- How often each place has come out. -/
def tells (P : List Int) (j : Nat) (m : List Int) : Prop := ∀ y, y < m.length → m[y]? = some (if (y : Int) ∈ P.take j then 1 else 0)
theorem tells_zero (P : List Int) (n : Nat) : tells P 0 (List.replicate n 0) := by
  intro y hy
  simp at hy
  simp [hy]
theorem tells_step {P : List Int} (hn : P.Nodup) {j : Nat} {m : List Int} (h : tells P j m) {q : Nat} (hq : P[j]? = some (q : Int)) (hm : q < m.length) : m[q]? = some 0 ∧ tells P (j + 1) (m.set q 1) := by
  have hnot : (q : Int) ∉ P.take j := by
    have h1 := hn.sublist (List.take_sublist (j + 1) P)
    rw [take_snoc hq, List.nodup_append] at h1
    exact fun hx => h1.2.2 _ hx _ (by simp) rfl
  refine ⟨by rw [h q hm, if_neg hnot], fun y hy => ?_⟩
  rw [List.length_set] at hy
  rw [List.getElem?_set, take_snoc hq]
  by_cases e : q = y
  · subst e
    rw [if_pos rfl, if_pos hy]
    simp
  · rw [if_neg e, h y hy]
    have : (y : Int) ≠ (q : Int) := by omega
    simp [this]
/-- What came out last. -/
def lastOf (S : List (Int × Int)) : Nat → Int × Int
  | 0 => (-1, -1)
  | j + 1 => S.getD j (-1, -1)
/-- What comes out next is behind what came out last. -/
theorem last_next {l : List Nat} {k j : Nat} {x : Int × Int} (h : (sorted ltA (placed l k))[j]? = some x) : (lastOf (sorted ltA (placed l k)) j).1 ≤ x.1 ∧ ((lastOf (sorted ltA (placed l k)) j).1 = x.1 → (lastOf (sorted ltA (placed l k)) j).2 < x.2) := by
  have hm := stays_mem (List.mem_of_getElem? h)
  cases j with
  | zero => simp [lastOf]; omega
  | succ j =>
    obtain ⟨h1, h2⟩ := List.getElem?_eq_some_iff.1 h
    have hp := List.pairwise_iff_getElem.1 (stays_lex l k) j (j + 1) (by omega) h1 (by omega)
    rw [h2] at hp
    have e : lastOf (sorted ltA (placed l k)) (j + 1) = (sorted ltA (placed l k))[j] := by
      rw [lastOf, List.getD_eq_getElem?_getD, List.getElem?_eq_getElem (by omega)]; rfl
    rw [e]
    unfold Lx at hp
    omega
theorem last_step {S : List (Int × Int)} {j : Nat} {x : Int × Int} (h : S[j]? = some x) : lastOf S (j + 1) = x := by
  rw [lastOf, List.getD_eq_getElem?_getD, h]; rfl
end Go.Proofs.Ytiogmgpkaiicpaa.Qu
