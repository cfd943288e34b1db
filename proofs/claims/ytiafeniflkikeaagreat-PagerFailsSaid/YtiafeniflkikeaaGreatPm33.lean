/- Parts of the proof. -/
import Derived.Test.YtiafeniflkikeaaGreatPm32
import Derived.Test.YtiafeniflkikeaaGreatPm08
namespace Go.Proofs.YtiafeniflkikeaaGreat
open Go.RowKit
set_option linter.unusedVariables false
namespace Pp
def fillF (F : List Nat) (a : Nat) : List Nat := if a ≤ F.length then F else F ++ noughts (a - F.length)
def pageF (x : Pa.Page) : List Nat := Pg.page x.n x.kind x.body
def putF (F : List Nat) (x : Pa.Page) : List Nat := Sf.done (fillF F (512 * x.n)) ⟨false, 512 * x.n, pageF x⟩
theorem fillF_len (F : List Nat) (a : Nat) : (fillF F a).length = max F.length a := by
 unfold fillF
 split
 ·omega
 ·rw [List.length_append, noughts_len]; omega
theorem putF_len {F : List Nat} {x : Pa.Page} (hp : (pageF x).length = 512) : (putF F x).length = max F.length (512 * (x.n + 1)) := by
 unfold putF Sf.done
 have h := fillF_len F (512 * x.n)
 simp only [Bool.false_eq_true, if_false]
 rw [List.length_append, List.length_append, List.length_take, List.length_drop, hp]
 omega
end Pp
end Go.Proofs.YtiafeniflkikeaaGreat
namespace Go.Proofs.YtiafeniflkikeaaGreat
open Go.RowKit
set_option linter.unusedVariables false
namespace Pp
def putsF (F : List Nat) (l : List Pa.Page) : List Nat := l.foldl putF F
def Off (F G : List Nat) (l : List Pa.Page) : Prop := F.length ≤ G.length ∧ ∀ i, i < F.length → (∀ x ∈ l, i < 512 * x.n ∨ 512 * (x.n + 1) ≤ i) → G[i]? = F[i]?
theorem Off.refl (F : List Nat) (l : List Pa.Page) : Off F F l := ⟨Nat.le_refl _, fun _ _ _ => rfl⟩
theorem Off.trans {F G H : List Nat} {l : List Pa.Page} (h1 : Off F G l) (h2 : Off G H l) : Off F H l :=
 ⟨Nat.le_trans h1.1 h2.1, fun i hi hl => (h2.2 i (Nat.lt_of_lt_of_le hi h1.1) hl).trans (h1.2 i hi hl)⟩
theorem Off.more {F G : List Nat} {l m : List Pa.Page} (h : Off F G l) (hm : ∀ x ∈ l, x ∈ m) : Off F G m := ⟨h.1, fun i hi hl => h.2 i hi (fun x hx => hl x (hm x hx))⟩
theorem fillF_off (F : List Nat) (a : Nat) (l : List Pa.Page) : Off F (fillF F a) l := by
 refine ⟨by rw [fillF_len]; omega, fun i hi _ => ?_⟩
 unfold fillF
 split
 ·rfl
 ·rw [List.getElem?_append_left hi]
theorem putF_get {F : List Nat} {x : Pa.Page} (hp : (pageF x).length = 512) (i : Nat) (hi : i < 512 * x.n ∨ 512 * (x.n + 1) ≤ i) : (putF F x)[i]? = (fillF F (512 * x.n))[i]? := by
 have hf := fillF_len F (512 * x.n)
 unfold putF Sf.done
 simp only [Bool.false_eq_true, if_false]
 rw [List.append_assoc]
 rcases hi with hi | hi
 ·rw [List.getElem?_append_left (by rw [List.length_take]; omega), List.getElem?_take_of_lt hi]
 ·rw [List.getElem?_append_right (by rw [List.length_take]; omega), List.length_take, List.getElem?_append_right (by rw [hp]; omega), hp, List.getElem?_drop]
  refine congrArg (fun j => (fillF F (512 * x.n))[j]?) ?_
  omega
theorem putF_off {F : List Nat} {x : Pa.Page} {l : List Pa.Page} (hp : (pageF x).length = 512) (hx : x ∈ l) : Off F (putF F x) l := by
 refine ⟨by rw [putF_len hp]; omega, fun i hi hl => ?_⟩
 rw [putF_get hp i (hl x hx)]
 exact (fillF_off F (512 * x.n) l).2 i hi hl
theorem putF_page {F : List Nat} {x : Pa.Page} (hp : (pageF x).length = 512) : pageOf (putF F x) x.n = pageF x := by
 have hf := fillF_len F (512 * x.n)
 unfold pageOf putF Sf.done
 simp only [Bool.false_eq_true, if_false]
 have h1 : ((fillF F (512 * x.n)).take (512 * x.n)).length = 512 * x.n := by rw [List.length_take]; omega
 rw [List.append_assoc, List.drop_append_of_le_length (by omega), List.drop_of_length_le (by omega), List.nil_append, List.take_append_of_le_length (by omega), List.take_of_length_le (by omega)]
theorem Off.page {F G : List Nat} {l : List Pa.Page} (h : Off F G l) {n : Nat} (hn : 512 * (n + 1) ≤ F.length) (hl : ∀ x ∈ l, x.n ≠ n) : pageOf G n = pageOf F n := by
 unfold pageOf
 have hg := h.1
 refine List.ext_getElem? (fun i => ?_)
 by_cases hi : i < 512
 ·rw [List.getElem?_take_of_lt hi, List.getElem?_take_of_lt hi, List.getElem?_drop, List.getElem?_drop]
  exact h.2 _ (by omega) (fun x hx => by have := hl x hx; omega)
 ·rw [List.getElem?_eq_none (by rw [List.length_take]; omega), List.getElem?_eq_none (by rw [List.length_take]; omega)]
theorem putsF_off {l m : List Pa.Page} (hp : ∀ x ∈ l, (pageF x).length = 512) : ∀ {F : List Nat}, (∀ x ∈ l, x ∈ m) → Off F (putsF F l) m := by
 induction l with
 | nil => intro F _; exact Off.refl F m
 | cons x l ih =>
  intro F hm
  exact (putF_off (hp x List.mem_cons_self) (hm x List.mem_cons_self)).trans (ih (fun y hy => hp y (List.mem_cons_of_mem _ hy)) (fun y hy => hm y (List.mem_cons_of_mem _ hy)))
theorem putsF_page {l : List Pa.Page} (hr : Pa.Rising l) (hp : ∀ x ∈ l, (pageF x).length = 512) : ∀ {F : List Nat}, ∀ x ∈ l, pageOf (putsF F l) x.n = pageF x := by
 induction l with
 | nil => intro F x hx; cases hx
 | cons y l ih =>
  intro F x hx
  have hr' := List.pairwise_cons.1 hr
  have hpy := hp y List.mem_cons_self
  have hpl : ∀ x ∈ l, (pageF x).length = 512 := fun z hz => hp z (List.mem_cons_of_mem _ hz)
  rcases List.mem_cons.1 hx with rfl | hx
  ·show pageOf (putsF (putF F x) l) x.n = _
   rw [(putsF_off (m := l) hpl (fun _ h => h)).page (by rw [putF_len hpy]; omega) (fun z hz => by have := hr'.1 z hz; omega), putF_page hpy]
  ·exact ih hr'.2 hpl x hx
theorem putsF_len {l : List Pa.Page} (hp : ∀ x ∈ l, (pageF x).length = 512) : ∀ (F : List Nat), (putsF F l).length = l.foldl (fun p x => max p ((x.n + 1) * 512)) F.length := by
 induction l with
 | nil => intro F; rfl
 | cons x l ih =>
  intro F
  show (putsF (putF F x) l).length = _
  rw [ih (fun y hy => hp y (List.mem_cons_of_mem _ hy)), putF_len (hp x List.mem_cons_self), List.foldl_cons]
  congr 1
  omega
end Pp
end Go.Proofs.YtiafeniflkikeaaGreat
namespace Go.Proofs.YtiafeniflkikeaaGreat
open Go.RowKit
set_option linter.unusedVariables false
namespace Pp
theorem sizeL_pend (l : List Pa.Page) : ∀ n : Nat, Pa.sizeL n l = (pend l).foldl (fun p x => max p ((x.n + 1) * 512)) n := by
 induction l with
 | nil => intro n; rfl
 | cons x l ih =>
  intro n
  have e : Pa.sizeL n (x :: l) = Pa.sizeL (if x.state = 2 then max n ((x.n + 1) * 512) else n) l := rfl
  rw [e, ih]
  unfold pend
  by_cases h : x.state = 2
  ·rw [if_pos h, List.filter_cons_of_pos (by simpa using h), List.foldl_cons]
  ·rw [if_neg h, List.filter_cons_of_neg (by simpa using h)]
theorem Off.cut {F G : List Nat} {l : List Pa.Page} (h : Off F G l) : Off F (G.take F.length) l := by
 refine ⟨by rw [List.length_take]; have := h.1; omega, fun i hi hl => ?_⟩
 rw [List.getElem?_take_of_lt hi]
 exact h.2 i hi hl
end Pp
end Go.Proofs.YtiafeniflkikeaaGreat
namespace Go.Proofs.YtiafeniflkikeaaGreat
open Go.RowKit
set_option linter.unusedVariables false
end Go.Proofs.YtiafeniflkikeaaGreat
