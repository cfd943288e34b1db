/-
  Plain mathematics of chapter 7 (queue): lists in their order, kept by inserting behind what is not behind.
-/
import Derived.Test.YtiogmgpkaiicpaaEl
namespace Go.Proofs.Ytiogmgpkaiicpaa.Qu

section
variable {α : Type} {lt : α → α → Bool}
/-- An order, as the chapter says. -/
structure Order (lt : α → α → Bool) : Prop where
  irr : ∀ a, lt a a = false
  trans : ∀ a b c, lt a b = true → lt b c = true → lt a c = true
  alike : ∀ a b c, lt a b = true → lt a c = true ∨ lt c b = true
theorem Order.asymm (h : Order lt) {a b : α} (hab : lt a b = true) : lt b a = false := by
  cases hba : lt b a with
  | false => rfl
  | true => have h1 := h.trans a b a hab hba; rw [h.irr a] at h1; cases h1
/-- What is not behind, then strictly behind. -/
theorem Order.le_lt (h : Order lt) {a b c : α} (hab : lt b a = false) (hbc : lt b c = true) : lt a c = true := by
  rcases h.alike b c a hbc with h1 | h1
  · rw [hab] at h1; cases h1
  · exact h1
theorem Order.lt_le (h : Order lt) {a b c : α} (hab : lt a b = true) (hbc : lt c b = false) : lt a c = true := by
  rcases h.alike a b c hab with h1 | h1
  · exact h1
  · rw [hbc] at h1; cases h1
theorem Order.le_le (h : Order lt) {a b c : α} (hab : lt b a = false) (hbc : lt c b = false) : lt c a = false := by
  cases hca : lt c a with
  | false => rfl
  | true =>
    rcases h.alike c a b hca with h1 | h1
    · rw [hbc] at h1; cases h1
    · rw [hab] at h1; cases h1

/-- Behind all that are not behind it. -/
def ins (lt : α → α → Bool) : List α → α → List α
  | [], x => [x]
  | y :: r, x => if lt x y = true then x :: y :: r else y :: ins lt r x
theorem ins_cons (y : α) (r : List α) (x : α) : ins lt (y :: r) x = if lt x y = true then x :: y :: r else y :: ins lt r x := rfl
/-- All of a list, one behind the other. -/
def sorted (lt : α → α → Bool) (l : List α) : List α := l.foldl (ins lt) []
theorem sorted_snoc (l : List α) (x : α) : sorted lt (l ++ [x]) = ins lt (sorted lt l) x := by simp [sorted]
theorem ins_perm (S : List α) (x : α) : (ins lt S x).Perm (x :: S) := by
  induction S with
  | nil => exact List.Perm.refl _
  | cons y r ih =>
    unfold ins
    by_cases h : lt x y = true
    · rw [if_pos h]
    · rw [if_neg h]
      exact (ih.cons y).trans (List.Perm.swap x y r)
theorem ins_len (S : List α) (x : α) : (ins lt S x).length = S.length + 1 := by rw [(ins_perm S x).length_eq]; rfl
theorem foldl_perm (T l : List α) : (l.foldl (ins lt) T).Perm (T ++ l) := by
  induction l generalizing T with
  | nil => simp
  | cons x r ih =>
    refine (ih (ins lt T x)).trans ?_
    refine ((ins_perm T x).append_right r).trans ?_
    rw [List.cons_append]
    exact List.perm_middle.symm
theorem sorted_perm (l : List α) : (sorted lt l).Perm l := foldl_perm (lt := lt) [] l
theorem sorted_len (l : List α) : (sorted lt l).length = l.length := (sorted_perm l).length_eq

/-- In its order: none is less than one ahead of it. -/
def Row (lt : α → α → Bool) (S : List α) : Prop := S.Pairwise (fun a b => lt b a = false)
theorem Row.tail {x : α} {S : List α} (h : Row lt (x :: S)) : Row lt S := (List.pairwise_cons.1 h).2
theorem Row.head {x : α} {S : List α} (h : Row lt (x :: S)) : ∀ y ∈ S, lt y x = false := (List.pairwise_cons.1 h).1
theorem ins_row (ho : Order lt) {S : List α} (h : Row lt S) (x : α) : Row lt (ins lt S x) := by
  induction S with
  | nil => simp [ins, Row]
  | cons y r ih =>
    unfold ins
    by_cases hx : lt x y = true
    · rw [if_pos hx]
      refine List.pairwise_cons.2 ⟨fun z hz => ?_, h⟩
      rcases List.mem_cons.1 hz with rfl | hz
      · exact ho.asymm hx
      · exact ho.asymm (ho.lt_le hx (h.head z hz))
    · rw [if_neg hx]
      refine List.pairwise_cons.2 ⟨fun z hz => ?_, ih h.tail⟩
      rcases List.mem_cons.1 ((ins_perm r x).mem_iff.1 hz) with rfl | hz
      · simpa using hx
      · exact h.head z hz
theorem foldl_row (ho : Order lt) {T : List α} (h : Row lt T) (l : List α) : Row lt (l.foldl (ins lt) T) := by
  induction l generalizing T with
  | nil => exact h
  | cons x r ih => exact ih (ins_row ho h x)
theorem sorted_row (ho : Order lt) (l : List α) : Row lt (sorted lt l) := foldl_row ho (by simp [Row]) l

/-! Two that are sorted, and then sorted together. -/
theorem ins_comm (ho : Order lt) {x y : α} (h : lt x y = true) (S : List α) : ins lt (ins lt S x) y = ins lt (ins lt S y) x := by
  have hyx := ho.asymm h
  induction S with
  | nil => simp [ins, h, hyx]
  | cons z r ih =>
    by_cases hxz : lt x z = true
    · by_cases hyz : lt y z = true
      · simp [ins, hxz, hyz, h, hyx]
      · simp [ins, hxz, hyz, hyx]
    · by_cases hyz : lt y z = true
      · exact absurd (ho.trans x y z h hyz) hxz
      · simp [ins, hxz, hyz, ih]
theorem foldl_past (ho : Order lt) {x : α} {S : List α} (h : ∀ z ∈ S, lt x z = true) (T : List α) : S.foldl (ins lt) (ins lt T x) = ins lt (S.foldl (ins lt) T) x := by
  induction S generalizing T with
  | nil => rfl
  | cons z r ih =>
    rw [List.foldl_cons, List.foldl_cons, ins_comm ho (h z (by simp)), ih (fun y hy => h y (by simp [hy]))]
theorem foldl_ins (ho : Order lt) {S : List α} (h : Row lt S) (x : α) (T : List α) : (ins lt S x).foldl (ins lt) T = ins lt (S.foldl (ins lt) T) x := by
  induction S generalizing T with
  | nil => rfl
  | cons y r ih =>
    rw [ins_cons]
    by_cases hx : lt x y = true
    · rw [if_pos hx, List.foldl_cons]
      exact foldl_past ho (fun z hz => by
        rcases List.mem_cons.1 hz with rfl | hz
        · exact hx
        · exact ho.lt_le hx (h.head z hz)) T
    · rw [if_neg hx, List.foldl_cons, List.foldl_cons, ih h.tail]
theorem snoc_ind {β : Type} {C : List β → Prop} (h0 : C []) (h1 : ∀ l x, C l → C (l ++ [x])) (l : List β) : C l := by
  have : ∀ m : List β, C m.reverse := by
    intro m
    induction m with
    | nil => exact h0
    | cons x r ih => rw [List.reverse_cons]; exact h1 _ _ ih
  have := this l.reverse
  rwa [List.reverse_reverse] at this
theorem foldl_sorted (ho : Order lt) (l T : List α) : (sorted lt l).foldl (ins lt) T = l.foldl (ins lt) T := by
  induction l using snoc_ind with
  | h0 => rfl
  | h1 l x ih => rw [sorted_snoc, foldl_ins ho (sorted_row ho l), ih, List.foldl_append]; rfl
theorem sorted_both (ho : Order lt) (a b : List α) : sorted lt (sorted lt a ++ sorted lt b) = sorted lt (a ++ b) := by
  unfold sorted
  rw [List.foldl_append, List.foldl_append]
  show (sorted lt b).foldl (ins lt) ((sorted lt a).foldl (ins lt) []) = _
  rw [foldl_sorted ho, foldl_sorted ho]
/-- What stands in its order already. -/
theorem sorted_of_row {l : List α} (h : Row lt l) : sorted lt l = l := by
  induction l using snoc_ind with
  | h0 => rfl
  | h1 l x ih =>
    have h1 := List.pairwise_append.1 h
    rw [sorted_snoc, ih h1.1]
    have h2 : ∀ y ∈ l, lt x y = false := fun y hy => h1.2.2 y hy x (by simp)
    clear ih h h1
    induction l with
    | nil => rfl
    | cons y r ih =>
      unfold ins
      rw [if_neg (by rw [h2 y (by simp)]; simp), ih (fun z hz => h2 z (by simp [hz]))]
      rfl
end

/-! Numbers by what is left of them. -/
def rank (x b : Int) : Int := if b = 0 then 0 else x.tmod b
def ltR (b : Int) (x y : Int) : Bool := decide (rank x b < rank y b)
theorem ltR_order (b : Int) : Order (ltR b) where
  irr := fun a => by simp [ltR]
  trans := fun a c d h1 h2 => by simp only [ltR, decide_eq_true_eq] at *; omega
  alike := fun a c d h => by simp only [ltR, decide_eq_true_eq] at *; omega
end Go.Proofs.Ytiogmgpkaiicpaa.Qu
