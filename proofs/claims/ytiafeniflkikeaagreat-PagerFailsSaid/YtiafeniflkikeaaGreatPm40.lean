/- Parts of the proof. -/
import Derived.Test.YtiafeniflkikeaaGreatPm15
import Derived.Test.YtiafeniflkikeaaGreatPm31
import Derived.Test.YtiafeniflkikeaaGreatPm13
import Derived.Test.YtiafeniflkikeaaGreatPm30
import Derived.Test.YtiafeniflkikeaaGreatPm22
namespace Go.Proofs.YtiafeniflkikeaaGreat.Pp
structure Goes (s : S) (F : List Nat) (m : Pa.M) : Prop where
 root : s.root = m.root
 l : s.l.map bare = m.l.map bare
 ok : Pa.Ok m
 size : m.size = F.length
 page : ∀ x ∈ m.l, x.state ≠ 2 → rdE F x.n = (x.kind, x.body, 0)
 less : ∀ x ∈ m.l, x.state ≠ 2 → (x.n : Int) < m.root.pages
 told : told F = (m.root, 0)
theorem bare_n (x : Pa.Page) : (bare x).n = x.n := by unfold bare; split <;> rfl
theorem bare_state (x : Pa.Page) : (bare x).state = x.state := by unfold bare; split <;> rfl
theorem bare_pend {x : Pa.Page} (h : x.state = 2) : bare x = x := if_pos h
theorem bare_held {x : Pa.Page} (h : x.state ≠ 2) : bare x = { x with kind := 0, body := [] } := if_neg h
theorem at_eq {l l' : List Pa.Page} (h : l.map bare = l'.map bare) (i : Nat) : (l[i]?).map bare = (l'[i]?).map bare := by
 have := congrArg (fun z => z[i]?) h
 simpa using this
theorem idx_bare (l : List Pa.Page) (n : Int) : Pa.idx (l.map bare) n = Pa.idx l n := by
 unfold Pa.idx
 induction l with
 | nil => rfl
 | cons x l ih =>
  rw [List.map_cons, List.findIdx?_cons, List.findIdx?_cons, bare_n, ih]
theorem idx_eq {l l' : List Pa.Page} (h : l.map bare = l'.map bare) (n : Int) : Pa.idx l n = Pa.idx l' n := by rw [← idx_bare l, ← idx_bare l', h]
theorem gap_bare (l : List Pa.Page) : ∀ c, Pa.gap (l.map bare) c = Pa.gap l c := by
 induction l with
 | nil => intro c; rfl
 | cons x l ih =>
  intro c
  rw [List.map_cons]
  unfold Pa.gap
  rw [bare_n]
  split
  ·rw [ih]
  ·rfl
theorem gap_eq {l l' : List Pa.Page} (h : l.map bare = l'.map bare) (c : Nat) : Pa.gap l c = Pa.gap l' c := by rw [← gap_bare l, ← gap_bare l', h]
theorem back_bare (l : List Pa.Page) : (Pa.backL l).map bare = (Pa.backL (l.map bare)).map bare := by
 unfold Pa.backL
 rw [List.filter_map, List.map_map, List.map_map, List.map_map]
 have h1 : ((fun x : Pa.Page => decide (x.state ≠ 2)) ∘ bare) = fun x => decide (x.state ≠ 2) := by funext x; simp [bare_state]
 rw [h1]
 refine List.map_congr_left fun x hx => ?_
 have hs : x.state ≠ 2 := by simpa using (List.mem_filter.1 hx).2
 simp [Pa.used, bare, hs]
theorem back_eq {l l' : List Pa.Page} (h : l.map bare = l'.map bare) : (Pa.backL l).map bare = (Pa.backL l').map bare := by rw [back_bare l, back_bare l', h]
theorem kept_bare (l : List Pa.Page) : ((Pa.keep l).map Pa.used).map bare = ((Pa.keep (l.map bare)).map Pa.used).map bare := by
 unfold Pa.keep
 rw [List.filter_map, List.map_map, List.map_map, List.map_map]
 have h1 : ((fun x : Pa.Page => decide (x.state ≠ 3)) ∘ bare) = fun x => decide (x.state ≠ 3) := by funext x; simp [bare_state]
 rw [h1]
 refine List.map_congr_left fun x hx => ?_
 simp only [Function.comp_apply, Pa.used]
 rw [bare_held (by simp), bare_held (by simp)]
 simp [bare_n]
theorem kept_eq {l l' : List Pa.Page} (h : l.map bare = l'.map bare) : ((Pa.keep l).map Pa.used).map bare = ((Pa.keep l').map Pa.used).map bare := by rw [kept_bare l, kept_bare l', h]
theorem pages_bare (l : List Pa.Page) : Pa.pages (l.map bare) = Pa.pages l := by
 unfold Pa.pages
 rw [List.foldl_map]
 congr 1
 funext p x
 rw [bare_state, bare_n]
theorem sizeL_bare (s : Nat) (l : List Pa.Page) : Pa.sizeL s (l.map bare) = Pa.sizeL s l := by
 unfold Pa.sizeL
 rw [List.foldl_map]
 congr 1
 funext p x
 rw [bare_state, bare_n]
theorem there_bare (l : List Pa.Page) (p : Int) : Pa.there (l.map bare) p = Pa.there l p := by
 unfold Pa.there Pa.keep
 rw [List.filter_map, List.any_map]
 have h1 : ((fun x : Pa.Page => decide (x.state ≠ 3)) ∘ bare) = fun x => decide (x.state ≠ 3) := by funext x; simp [bare_state]
 have h2 : ((fun x : Pa.Page => decide ((x.n : Int) = p)) ∘ bare) = fun x => decide ((x.n : Int) = p) := by funext x; simp [bare_n]
 rw [h1, h2]
theorem commit_eq {s : S} {F : List Nat} {m : Pa.M} (h : Goes s F m) (r : Rt.Root) (free : Int) :
  (Pa.commit (asM s F) r free).2 = (Pa.commit m r free).2 ∧ Pa.rootOf (asM s F) r = Pa.rootOf m r := by
 have e1 : Pa.pages s.l = Pa.pages m.l := by rw [← pages_bare s.l, ← pages_bare m.l, h.l]
 have e2 : ∀ z, Pa.sizeL z s.l = Pa.sizeL z m.l := fun z => by rw [← sizeL_bare z s.l, ← sizeL_bare z m.l, h.l]
 have e3 : ∀ p, Pa.there s.l p = Pa.there m.l p := fun p => by rw [← there_bare s.l, ← there_bare m.l, h.l]
 have e4 : Pa.rootOf (asM s F) r = Pa.rootOf m r := by unfold Pa.rootOf asM; simp only; rw [e1, h.root]
 refine ⟨?_, e4⟩
 have h0 : ∀ (mm : Pa.M), Pa.commit mm r free = if Pa.there mm.l r.page = false ∨ ¬ Rt.May (Pa.rootOf mm r) then (mm, 2) else if free < (Pa.sizeL mm.size mm.l : Int) - mm.size then (mm, 9) else (⟨Pa.rootOf mm r, (Pa.keep mm.l).map Pa.used, Pa.sizeL mm.size mm.l⟩, 0) := fun _ => rfl
 rw [h0, h0]
 by_cases h1 : Pa.there m.l r.page = false ∨ ¬ Rt.May (Pa.rootOf m r)
 ·rw [if_pos h1, if_pos (by show Pa.there s.l r.page = false ∨ _; rw [e3, e4]; exact h1)]
 ·rw [if_neg h1, if_neg (by show ¬ (Pa.there s.l r.page = false ∨ _); rw [e3, e4]; exact h1)]
  by_cases h2 : free < (Pa.sizeL m.size m.l : Int) - m.size
  ·rw [if_pos h2, if_pos (by show free < (Pa.sizeL F.length s.l : Int) - (F.length : Int); rw [e2, ← h.size]; exact h2)]
  ·rw [if_neg h2, if_neg (by show ¬ free < (Pa.sizeL F.length s.l : Int) - (F.length : Int); rw [e2, ← h.size]; exact h2)]
theorem rising_filter {l : List Pa.Page} (h : Pa.Rising l) (p : Pa.Page → Bool) : Pa.Rising (l.filter p) := List.Pairwise.filter p h
theorem rising_map {l : List Pa.Page} {g : Pa.Page → Pa.Page} (h : Pa.Rising l) (hg : ∀ x, (g x).n = x.n) : Pa.Rising (l.map g) := by
 unfold Pa.Rising at h ⊢
 rw [List.pairwise_map]
 exact h.imp (fun h => by rw [hg, hg]; exact h)
theorem Goes.back {s : S} {F : List Nat} {m : Pa.M} (h : Goes s F m) : Goes { s with l := Pa.backL s.l } F (Pa.back m) := by
 have hmem : ∀ x ∈ Pa.backL m.l, ∃ y ∈ m.l, y.state ≠ 2 ∧ x = Pa.used y := fun x hx => by
  obtain ⟨y, hy, rfl⟩ := List.mem_map.1 hx
  have h1 := List.mem_filter.1 hy
  exact ⟨y, h1.1, by simpa using h1.2, rfl⟩
 refine ⟨h.root, back_eq h.l, ⟨h.ok.root, rising_map (rising_filter h.ok.rise _) (fun _ => rfl), fun x hx => ?_⟩, h.size, fun x hx _ => ?_, fun x hx _ => ?_, h.told⟩
 ·obtain ⟨y, hy, _, rfl⟩ := hmem x hx
  have := h.ok.from2 y hy
  exact ⟨this.1, this.2.1, .inl rfl, this.2.2.2⟩
 ·obtain ⟨y, hy, hs, rfl⟩ := hmem x hx
  exact h.page y hy hs
 ·obtain ⟨y, hy, hs, rfl⟩ := hmem x hx
  exact h.less y hy hs
theorem pages_more {l : List Pa.Page} (hr : Pa.Rising l) (h2 : ∀ x ∈ l, 2 ≤ x.n) : ∀ x ∈ l, x.state ≠ 3 → (x.n : Int) < Pa.pages l := by
 have gen : ∀ (l : List Pa.Page) (p : Int), Pa.Rising l → (∀ x ∈ l, p ≤ (x.n : Int) + 1) → p ≤ l.foldl (fun p x => if x.state = 3 then p else (x.n : Int) + 1) p ∧ ∀ x ∈ l, x.state ≠ 3 → (x.n : Int) < l.foldl (fun p x => if x.state = 3 then p else (x.n : Int) + 1) p := by
  intro l
  induction l with
  | nil => intro p _ _; exact ⟨Int.le_refl _, fun x hx => by cases hx⟩
  | cons y l ih =>
   intro p hr hp
   rw [List.foldl_cons]
   have hr' := List.pairwise_cons.1 hr
   have hy := hp y (by simp)
   have hq : ∀ x ∈ l, (if y.state = 3 then p else (y.n : Int) + 1) ≤ (x.n : Int) + 1 := fun x hx => by
    split
    ·exact hp x (by simp [hx])
    ·have := hr'.1 x hx; omega
   obtain ⟨h1, h2⟩ := ih _ hr'.2 hq
   refine ⟨?_, fun x hx hs => ?_⟩
   ·refine Int.le_trans ?_ h1
    split <;> omega
   ·rcases List.mem_cons.1 hx with rfl | hx
    ·rw [if_neg hs] at h1 ⊢
     omega
    ·exact h2 x hx hs
 exact (gen l 2 hr (fun x hx => by have := h2 x hx; omega)).2
end Go.Proofs.YtiafeniflkikeaaGreat.Pp
namespace Go.Proofs.YtiafeniflkikeaaGreat.Pp
theorem gap_spec {l : List Pa.Page} : ∀ {c : Nat}, Pa.Rising l → (∀ x ∈ l, c ≤ x.n) → (∀ x ∈ l.take (Pa.gap l c), x.n < c + Pa.gap l c) ∧ ∀ x ∈ l.drop (Pa.gap l c), c + Pa.gap l c < x.n := by
 induction l with
 | nil => intro c _ _; simp [Pa.gap]
 | cons y l ih =>
  intro c hr hc
  have hr' := List.pairwise_cons.1 hr
  have hy := hc y (by simp)
  unfold Pa.gap
  by_cases h : y.n = c
  ·rw [if_pos h]
   obtain ⟨h1, h2⟩ := ih (c := c + 1) hr'.2 (fun x hx => by have := hr'.1 x hx; omega)
   refine ⟨fun x hx => ?_, fun x hx => ?_⟩
   ·rw [List.take_succ_cons] at hx
    rcases List.mem_cons.1 hx with rfl | hx
    ·omega
    ·have := h1 x hx; omega
   ·rw [List.drop_succ_cons] at hx
    have := h2 x hx; omega
  ·rw [if_neg h]
   refine ⟨fun x hx => by simp at hx, fun x hx => ?_⟩
   rw [List.drop_zero] at hx
   rcases List.mem_cons.1 hx with rfl | hx
   ·omega
   ·have := hr'.1 x hx; omega
theorem rising_add {l : List Pa.Page} (hr : Pa.Rising l) (h2 : ∀ x ∈ l, 2 ≤ x.n) (kd : Nat) (b : List Nat) : Pa.Rising (Pa.addL l kd b) := by
 obtain ⟨h3, h4⟩ := gap_spec hr h2
 unfold Pa.addL Pa.Rising
 rw [List.pairwise_append]
 refine ⟨List.Pairwise.sublist (List.take_sublist _ _) hr, List.pairwise_cons.2 ⟨fun x hx => h4 x hx, List.Pairwise.sublist (List.drop_sublist _ _) hr⟩, fun x hx y hy => ?_⟩
 have := h3 x hx
 rcases List.mem_cons.1 hy with rfl | hy
 ·exact this
 ·have := h4 y hy; omega
theorem add_bare {l l' : List Pa.Page} (h : l.map bare = l'.map bare) (kd : Nat) (b : List Nat) : (Pa.addL l kd b).map bare = (Pa.addL l' kd b).map bare := by
 unfold Pa.addL
 rw [gap_eq h, List.map_append, List.map_append, List.map_cons, List.map_cons, List.map_take, List.map_take, List.map_drop, List.map_drop, h]
theorem mem_add {l : List Pa.Page} {kd : Nat} {b : List Nat} {x : Pa.Page} (h : x ∈ Pa.addL l kd b) : x ∈ l ∨ x = ⟨2 + Pa.gap l 2, 2, kd, b⟩ := by
 unfold Pa.addL at h
 rcases List.mem_append.1 h with h | h
 ·exact .inl (List.mem_of_mem_take h)
 ·rcases List.mem_cons.1 h with h | h
  ·exact .inr h
  ·exact .inl (List.mem_of_mem_drop h)
theorem Goes.add {s : S} {F : List Nat} {m : Pa.M} (h : Goes s F m) {kd : Nat} {b : List Nat} (hk : kd < 256) (hb : ∀ y ∈ b, y < 256) :
  (Pa.add (asM s F) kd b).2 = (Pa.add m kd b).2 ∧ Goes { s with l := (Pa.add (asM s F) kd b).1.l } F (Pa.add m kd b).1 := by
 have hg : Pa.gap s.l 2 = Pa.gap m.l 2 := gap_eq h.l 2
 have e0 : ∀ mm : Pa.M, Pa.add mm kd b = if 496 < b.length then (mm, 0, 3) else if 65536 ≤ 2 + Pa.gap mm.l 2 then (mm, 0, 3) else ({ mm with l := Pa.addL mm.l kd b }, 2 + Pa.gap mm.l 2, 0) := fun _ => rfl
 by_cases h1 : 496 < b.length
 ·rw [e0, e0, if_pos h1, if_pos h1]
  exact ⟨rfl, h⟩
 ·by_cases h2 : 65536 ≤ 2 + Pa.gap m.l 2
  ·rw [e0, e0, if_neg h1, if_neg h1, if_pos h2, if_pos (by show 65536 ≤ 2 + Pa.gap s.l 2; omega)]
   exact ⟨rfl, h⟩
  ·rw [e0, e0, if_neg h1, if_neg h1, if_neg h2, if_neg (by show ¬ 65536 ≤ 2 + Pa.gap s.l 2; omega)]
   refine ⟨by show (2 + Pa.gap s.l 2, 0) = (2 + Pa.gap m.l 2, 0); rw [hg], h.root, add_bare h.l kd b, ⟨h.ok.root, rising_add h.ok.rise (fun x hx => (h.ok.from2 x hx).1) kd b, fun x hx => ?_⟩, h.size, fun x hx hs => ?_, fun x hx hs => ?_, h.told⟩
   ·rcases mem_add hx with hx | rfl
    ·exact h.ok.from2 x hx
    ·exact ⟨by show 2 ≤ 2 + _; omega, by show 2 + Pa.gap m.l 2 < 65536; omega, .inr (.inl rfl), hk, by show b.length ≤ 496; omega, hb⟩
   ·rcases mem_add hx with hx | rfl
    ·exact h.page x hx hs
    ·exact absurd rfl hs
   ·rcases mem_add hx with hx | rfl
    ·exact h.less x hx hs
    ·exact absurd rfl hs
theorem drop_bare {l l' : List Pa.Page} (h : l.map bare = l'.map bare) {i : Nat} {x y : Pa.Page} (hx : l[i]? = some x) (hy : l'[i]? = some y) : (Pa.dropL l i x).map bare = (Pa.dropL l' i y).map bare := by
 have hb : bare x = bare y := by have := at_eq h i; rw [hx, hy] at this; exact Option.some.inj this
 have hs : x.state = y.state := by rw [← bare_state x, ← bare_state y, hb]
 have hn : x.n = y.n := by rw [← bare_n x, ← bare_n y, hb]
 unfold Pa.dropL
 rw [hs]
 split
 ·rw [List.map_append, List.map_append, List.map_take, List.map_take, List.map_drop, List.map_drop, h]
 ·rw [List.map_set, List.map_set, h, bare_held (x := { x with state := 3 }) (by simp), bare_held (x := { y with state := 3 }) (by simp)]
  simp only [hn]
theorem mem_drop {l : List Pa.Page} {i : Nat} {x y : Pa.Page} (_hx : l[i]? = some x) (h : y ∈ Pa.dropL l i x) : y ∈ l ∨ (x.state ≠ 2 ∧ y = { x with state := 3 }) := by
 unfold Pa.dropL at h
 split at h
 ·rcases List.mem_append.1 h with h | h
  ·exact .inl (List.mem_of_mem_take h)
  ·exact .inl (List.mem_of_mem_drop h)
 ·rcases List.mem_or_eq_of_mem_set h with h | h
  ·exact .inl h
  ·exact .inr ⟨by assumption, h⟩
theorem rising_drop {l : List Pa.Page} (hr : Pa.Rising l) {i : Nat} {x : Pa.Page} (hx : l[i]? = some x) : Pa.Rising (Pa.dropL l i x) := by
 unfold Pa.dropL
 split
 ·rw [← List.eraseIdx_eq_take_drop_succ]
  exact List.Pairwise.sublist (List.eraseIdx_sublist _ _) hr
 ·have e : ((l.set i { x with state := 3 }).map (·.n)) = l.map (·.n) := by
   rw [List.map_set]
   have hi := (List.getElem?_eq_some_iff.1 hx).1
   apply List.ext_getElem?
   intro j
   rw [List.getElem?_set]
   split
   ·subst_vars
    rw [List.getElem?_map, hx]
    simp [hi]
   ·rfl
  have h1 : (l.map (·.n)).Pairwise (· < ·) := List.pairwise_map.2 hr
  rw [← e] at h1
  exact List.pairwise_map.1 h1
theorem Goes.drop {s : S} {F : List Nat} {m : Pa.M} (h : Goes s F m) (n : Int) :
  (Pa.drop (asM s F) n).2 = (Pa.drop m n).2 ∧ Goes { s with l := (Pa.drop (asM s F) n).1.l } F (Pa.drop m n).1 := by
 have e0 : ∀ mm : Pa.M, Pa.drop mm n = match Pa.idx mm.l n with | none => (mm, 7) | some i => match mm.l[i]? with | none => (mm, 7) | some x => if x.state = 3 then (mm, 7) else ({ mm with l := Pa.dropL mm.l i x }, 0) := fun _ => rfl
 have hi : Pa.idx (asM s F).l n = Pa.idx m.l n := idx_eq h.l n
 cases hq : Pa.idx m.l n with
 | none =>
  rw [e0, e0, hi, hq]
  exact ⟨rfl, h⟩
 | some i =>
  obtain ⟨y, hy, hyn⟩ := Pa.idx_lt hq
  obtain ⟨x, hx, hxn⟩ := Pa.idx_lt (hi.trans hq)
  have hx' : s.l[i]? = some x := hx
  have hb : bare x = bare y := by have := at_eq h.l i; rw [hx', hy] at this; exact Option.some.inj this
  have hs : x.state = y.state := by rw [← bare_state x, ← bare_state y, hb]
  rw [e0, e0, hi, hq]
  simp only [hx, hy, hs]
  by_cases h3 : y.state = 3
  ·rw [if_pos h3, if_pos h3]
   exact ⟨rfl, h⟩
  ·rw [if_neg h3, if_neg h3]
   have hym := List.mem_of_getElem? hy
   refine ⟨rfl, h.root, drop_bare h.l hx' hy, ⟨h.ok.root, rising_drop h.ok.rise hy, fun z hz => ?_⟩, h.size, fun z hz hzs => ?_, fun z hz hzs => ?_, h.told⟩
   ·rcases mem_drop hy hz with hz | ⟨_, rfl⟩
    ·exact h.ok.from2 z hz
    ·have := h.ok.from2 y hym
     exact ⟨this.1, this.2.1, .inr (.inr rfl), this.2.2.2⟩
   ·rcases mem_drop hy hz with hz | ⟨h2, rfl⟩
    ·exact h.page z hz hzs
    ·exact h.page y hym h2
   ·rcases mem_drop hy hz with hz | ⟨h2, rfl⟩
    ·exact h.less z hz hzs
    ·exact h.less y hym h2
end Go.Proofs.YtiafeniflkikeaaGreat.Pp
namespace Go.Proofs.YtiafeniflkikeaaGreat
open Go.RowKit
set_option linter.unusedVariables false
namespace Pp
theorem set_mem {l : List Pa.Page} (hr : Pa.Rising l) {i : Nat} {x z : Pa.Page} (hx : l[i]? = some x) {y : Pa.Page} : y ∈ l.set i z ↔ (y ∈ l ∧ y.n ≠ x.n) ∨ y = z := by
 have hi := (List.getElem?_eq_some_iff.1 hx).1
 constructor
 ·intro hy
  obtain ⟨j, hj⟩ := List.getElem?_of_mem hy
  rw [List.getElem?_set] at hj
  by_cases e : i = j
  ·subst e
   simp [hi] at hj
   exact .inr hj.symm
  ·rw [if_neg e] at hj
   refine .inl ⟨List.mem_of_getElem? hj, fun hn => ?_⟩
   have := rising_inj hr (List.mem_of_getElem? hj) (List.mem_of_getElem? hx) hn
   subst this
   have h1 := (List.getElem?_eq_some_iff.1 hj)
   have h2 := (List.getElem?_eq_some_iff.1 hx)
   have hp := List.pairwise_iff_getElem.1 hr
   rcases Nat.lt_or_gt_of_ne e with h | h
   ·have := hp i j h2.1 h1.1 h; rw [h2.2, h1.2] at this; omega
   ·have := hp j i h1.1 h2.1 h; rw [h2.2, h1.2] at this; omega
 ·rintro (⟨hy, hn⟩ | rfl)
  ·obtain ⟨j, hj⟩ := List.getElem?_of_mem hy
   refine List.mem_of_getElem? (i := j) ?_
   rw [List.getElem?_set, if_neg (fun e => by subst e; rw [hx] at hj; exact hn (by rw [Option.some.inj hj])), hj]
  ·exact List.mem_of_getElem? (i := i) (by rw [List.getElem?_set, if_pos rfl, if_pos hi])
theorem era_mem {l : List Pa.Page} (hr : Pa.Rising l) {i : Nat} {x : Pa.Page} (hx : l[i]? = some x) {y : Pa.Page} : y ∈ l.take i ++ l.drop (i + 1) ↔ y ∈ l ∧ y.n ≠ x.n := by
 have h2 := List.getElem?_eq_some_iff.1 hx
 have hp := List.pairwise_iff_getElem.1 hr
 constructor
 ·intro hy
  rcases List.mem_append.1 hy with hy | hy
  ·refine ⟨List.mem_of_mem_take hy, ?_⟩
   obtain ⟨j, hj, rfl⟩ := List.mem_take_iff_getElem.1 hy
   have := hp j i (by omega) h2.1 (by omega)
   rw [h2.2] at this
   omega
  ·refine ⟨List.mem_of_mem_drop hy, ?_⟩
   obtain ⟨j, hj⟩ := List.getElem?_of_mem hy
   rw [List.getElem?_drop] at hj
   have h3 := List.getElem?_eq_some_iff.1 hj
   have := hp i (i + 1 + j) h2.1 h3.1 (by omega)
   rw [h2.2, h3.2] at this
   omega
 ·rintro ⟨hy, hn⟩
  obtain ⟨j, hj⟩ := List.getElem?_of_mem hy
  have hji : j ≠ i := fun e => by subst e; rw [hx] at hj; exact hn (by rw [Option.some.inj hj])
  rw [List.mem_append]
  rcases Nat.lt_or_gt_of_ne hji with h | h
  ·refine .inl (List.mem_of_getElem? (i := j) ?_)
   rw [List.getElem?_take, if_pos h, hj]
  ·refine .inr (List.mem_of_getElem? (i := j - (i + 1)) ?_)
   rw [List.getElem?_drop, show i + 1 + (j - (i + 1)) = j by omega, hj]
theorem need_some {l : List Pa.Page} {n : Int} : need l n = true ↔ ∃ x ∈ l, (x.n : Int) = n ∧ x.state ≠ 3 := by
 unfold need Pa.keep
 rw [List.any_eq_true]
 constructor
 ·rintro ⟨x, hx, hn⟩
  have := List.mem_filter.1 hx
  exact ⟨x, this.1, by simpa using hn, by simpa using this.2⟩
 ·rintro ⟨x, hx, hn, hs⟩
  exact ⟨x, List.mem_filter.2 ⟨hx, by simpa using hs⟩, by simpa using hn⟩
theorem drop_no {m : Pa.M} {n : Int} (hr : Pa.Rising m.l) (h : need m.l n = false) : Pa.drop m n = (m, 7) := by
 unfold Pa.drop
 split
 ·rfl
 ·rename_i i hi
  split
  ·rfl
  ·rename_i x hx
   obtain ⟨y, hy, hyn⟩ := Pa.idx_lt hi
   rw [hx] at hy
   have e := Option.some.inj hy
   subst e
   by_cases h3 : x.state = 3
   ·rw [if_pos h3]
   ·have := need_some.2 ⟨x, List.mem_of_getElem? hx, hyn, h3⟩
    rw [h] at this
    cases this
theorem drop_yes {m : Pa.M} {n : Int} (h : need m.l n = true) (hr : Pa.Rising m.l) : ∃ i x, m.l[i]? = some x ∧ (x.n : Int) = n ∧ x.state ≠ 3 ∧ Pa.drop m n = ({ m with l := Pa.dropL m.l i x }, 0) := by
 obtain ⟨x, hx, hn, hs⟩ := need_some.1 h
 have hf := Pa.find_some.2 ⟨x, hx, hn⟩
 unfold Pa.find at hf
 cases hq : Pa.idx m.l n with
 | none => rw [hq] at hf; cases hf
 | some i =>
  obtain ⟨y, hy, hyn⟩ := Pa.idx_lt hq
  have e := rising_inj hr (List.mem_of_getElem? hy) hx (by omega)
  subst e
  refine ⟨i, y, hy, hn, hs, ?_⟩
  unfold Pa.drop
  simp only [hq, hy, if_neg hs]
end Pp
section
variable {w w' : World} {f fp : Fp} {s : Pp.S} {F : List Nat} {b bf U D P H last frm : Nat} {fP : Int → Option RawU} {fH : Int → Option RawH}
set_option maxHeartbeats 2000000 in
set_option maxRecDepth 100000 in
theorem ppdrop_any (n : Int) (h : PPager w f s F b bf) (hn : I64 n) : Calls Tryz.prog 22 #[.pointer (some ⟨b, 0, none⟩), .int .i64 n] w (fun e w' => e = .returned (.int .i64 ((Pa.drop (Pp.asM s F) n).2 : Nat)) ∧ TurnsP f { s with l := (Pa.drop (Pp.asM s F) n).1.l } F b bf w w') := by
 obtain ⟨U, D, P, H, last, frm, fP, fH, h⟩ := h
 have CM := Lib.hid (pymade_any (h.cell rfl))
 have HH := Lib.hid h
 have CN := Lib.hid (pyisNeeded_any h n hn)
 obtain ⟨nd, hnd⟩ : ∃ nd, Pp.need s.l n = nd := ⟨_, rfl⟩
 rw [hnd] at CN
 cases nd with
 | false =>
  have HE : Hid (Pa.drop (Pp.asM s F) n = (Pp.asM s F, 7)) := Pp.drop_no (m := Pp.asM s F) h.sound.rise hnd
  rw [HE.out]
  clear h hnd HE
  go_enter Tryz.func22, Tryz.ntmps22
  go_wp2_with fail
  refine CM.out.mono ?_
  rintro e w1 ⟨rfl, rfl⟩
  clear CM
  go_wp2_with fail
  refine CN.out.mono ?_
  rintro e w2 ⟨rfl, b2⟩
  clear CN
  go_wp2
  go_ret
  exact ⟨rfl, TurnsP.same HH.out b2⟩
 | true =>
  obtain ⟨i, x, hx, hxn, hxs, hdr⟩ := Pp.drop_yes (m := Pp.asM s F) hnd h.sound.rise
  have hx : s.l[i]? = some x := hx
  rw [hdr]
  have hf2 := h.sound.from2 x (List.mem_of_getElem? hx)
  obtain ⟨m, rfl⟩ : ∃ m : Nat, n = (m : Int) := ⟨x.n, hxn.symm⟩
  have hxm : x.n = m := by omega
  subst hxm
  have HX := Lib.hid hx
  have HXS := Lib.hid hxs
  have HF2 := Lib.hid hf2
  have hok : nuM.ok (x.n : Int) := i64_ok hn
  by_cases h2 : x.state = 2
  ·have hu : (Pp.usedF s.l (x.n : Int)).isSome = false := by
    rw [← Bool.not_eq_true, Pp.usedF_some]
    rintro ⟨y, hy, hyn, hys⟩
    have := Pp.rising_inj h.sound.rise hy (List.mem_of_getElem? hx) (by omega)
    subst this
    exact hys h2
   have HDL : Hid (Pa.dropL s.l i x = s.l.take i ++ s.l.drop (i + 1)) := if_pos h2
   show Calls _ _ _ _ (fun e w' => _ ∧ TurnsP f { s with l := Pa.dropL s.l i x } F b bf w w')
   rw [HDL.out]
   have HU := Lib.hid hu
   clear h hnd hdr hx hxs hf2 hxn HDL h2 hu
   go_enter Tryz.func22, Tryz.ntmps22
   go_wp2_with fail
   refine CM.out.mono ?_
   rintro e w1 ⟨rfl, rfl⟩
   clear CM
   go_wp2_with fail
   refine CN.out.mono ?_
   rintro e w2 ⟨rfl, b2⟩
   have HH2 := Lib.hid (HH.out.below b2)
   have HB2 := Lib.hid b2
   have h9 : w2.cell? ⟨b, 9, none⟩ = some (.map (some U)) := HH2.out.cell rfl
   have CH := Lib.hid (pyhas_any HH2.out.used (x.n : Int) hn)
   rw [HU.out] at CH
   clear CN b2
   go_wp2_with fail
   refine CH.out.mono ?_
   rintro e w3 ⟨rfl, b3⟩
   have HH3 := Lib.hid (HH2.out.below b3)
   have HB3 := Lib.hid (HB2.out.trans (b3.mono HB2.out.size))
   have h11 : w3.cell? ⟨b, 11, none⟩ = some (.map (some P)) := HH3.out.cell rfl
   clear CH b3 h9
   go_wp2_with (refine wpList_delete_mp _ peM rfl _ _ rfl P 65536 _ rfl HH3.out.pend (x.n : Int) rfl hok ?_)
   intro w4 hm4 hg4
   have hbP : b ≠ P := HH3.out.sb.2.2.1
   have hH4 : Rw w4 b 79 (pyC bf s U D P H last frm) := (hg4.block b HH3.out.head.lt (fun e => hbP (Option.some.inj e))).trans HH3.out.head
   have c15 : w4.cell? ⟨b, 15, none⟩ = some (.int .i64 (frm : Nat)) := hH4.cell 15
   have f15 : w4.frozen? ⟨b, 15, none⟩ = false := hH4.frozen 15
   have HM4 := Lib.hid hm4
   have HG4 := Lib.hid hg4
   have HH4 := Lib.hid hH4
   clear hm4 hg4 h11 hbP hH4
   have HFIN : Hid (∀ q : Nat, q = min frm x.n → TurnsP f { s with l := s.l.take i ++ s.l.drop (i + 1) } F b bf w (w4.setCell ⟨b, 15, none⟩ (.int .i64 (q : Nat)))) := fun q hq => by
    have h := HH3.out
    have hX := HX.out
    have hsb := h.sb
    have hsu := h.su
    have hsd := h.sd
    have hsp := h.sp
    have hms := h.ms
    have hf2 := HF2.out
    have hmem : ∀ y, y ∈ s.l.take i ++ s.l.drop (i + 1) ↔ y ∈ s.l ∧ y.n ≠ x.n := fun y => Pp.era_mem h.sound.rise hX
    have hx2 : x.state = 2 := by
     apply Decidable.byContradiction
     intro hn2
     have := Pp.usedF_some.2 ⟨x, List.mem_of_getElem? hX, rfl, hn2⟩
     rw [HU.out] at this
     cases this
    have hT4 : Turned (fun k => k = P) w3 w4 := (Turned.of_grown HG4.out).mono (fun k _ h => (Option.some.inj h).symm)
    have hT5 : Turned (fun k => k = b) w4 (w4.setCell ⟨b, 15, none⟩ (.int .i64 (q : Nat))) := (Turned.refl (fun k => k = b) w4).setCell (p := ⟨b, 15, none⟩) (fun _ => rfl) _
    have hT : Turned (fun k => k = b ∨ k = P) w3 (w4.setCell ⟨b, 15, none⟩ (.int .i64 (q : Nat))) := (hT4.mono (fun _ _ h => .inr h)).trans hT5 (fun _ _ h => .inl h)
    have hT' : Turned f.M w3 (w4.setCell ⟨b, 15, none⟩ (.int .i64 (q : Nat))) := hT.mono (fun k _ hk => by rcases hk with rfl | rfl; exact hms.1; exact hms.2.2.2.1)
    have hu : Pp.usedF (s.l.take i ++ s.l.drop (i + 1)) = Pp.usedF s.l := Pp.unit_ext (fun k => by
     rw [Pp.usedF_some, Pp.usedF_some]
     constructor
     ·rintro ⟨y, hy, h1, h2⟩
      exact ⟨y, ((hmem y).1 hy).1, h1, h2⟩
     ·rintro ⟨y, hy, h1, h2⟩
      exact ⟨y, (hmem y).2 ⟨hy, fun e => h2 (by rw [Pp.rising_inj h.sound.rise hy (List.mem_of_getElem? hX) e]; exact hx2)⟩, h1, h2⟩)
    have hd : Pp.dropF (s.l.take i ++ s.l.drop (i + 1)) = Pp.dropF s.l := Pp.unit_ext (fun k => by
     rw [Pp.dropF_some, Pp.dropF_some]
     constructor
     ·rintro ⟨y, hy, h1, h2⟩
      exact ⟨y, ((hmem y).1 hy).1, h1, h2⟩
     ·rintro ⟨y, hy, h1, h2⟩
      exact ⟨y, (hmem y).2 ⟨hy, fun e => by rw [Pp.rising_inj h.sound.rise hy (List.mem_of_getElem? hX) e, hx2] at h2; omega⟩, h1, h2⟩)
    have hnew := h.make (l' := s.l.take i ++ s.l.drop (i + 1)) (frm' := q) (fP' := fun k => if k = (x.n : Int) then none else fP k) f.R (fun _ h => h) (fun k hk => ⟨(h.r k hk).1, Nat.lt_of_lt_of_le (h.r k hk).2 hT.size⟩) hT' (by rw [← pyC_from bf s U D P H last frm q]; exact HH4.out.set 15 _)
     (by rw [hu]; exact h.used.turned_ hT (by omega)) (by rw [hd]; exact h.drop.turned_ hT (by omega)) (HM4.out.turned_ hT5 (by omega)) (h.hand.turned_ hT (by omega))
     (fun k c hc => by
      split at hc
      ·cases hc
      ·rename_i hk
       obtain ⟨y, a1, a2, a3, a4⟩ := h.hpend k c hc
       exact ⟨y, (hmem y).2 ⟨a1, fun e => hk (by omega)⟩, a2, a3, a4.turned hT' (fun q hq hm => (h.r q hq).1 hm)⟩)
     (fun y hy hs => by
      obtain ⟨h1, h2⟩ := (hmem y).1 hy
      rw [if_neg (by omega)]
      exact h.there y h1 hs)
     (fun y hy hs => ⟨y, (hmem y).2 ⟨hy, fun e => hs (by rw [Pp.rising_inj h.sound.rise hy (List.mem_of_getElem? hX) e]; exact hx2)⟩, rfl, hs⟩) (by have := h.from2; omega) (fun k h1 h2 => by
      obtain ⟨y, hy, hn⟩ := h.full k h1 (by omega)
      exact ⟨y, (hmem y).2 ⟨hy, by omega⟩, hn⟩) (by
      rw [← List.eraseIdx_eq_take_drop_succ]
      exact List.Pairwise.sublist (List.eraseIdx_sublist _ _) h.sound.rise) (fun y hy => h.sound.from2 y ((hmem y).1 hy).1)
    exact ⟨f, ⟨_, _, _, _, _, _, _, _, hnew⟩, Fp.Next.refl _ _, ((Turned.of_below HB3.out).mono (G := f.M) (fun q hq h => absurd hq (by omega))).trans hT' (fun _ _ h => h)⟩
   clear hx hn hok
   go_wp2
   all_goals go_ret
   all_goals first
    | exact ⟨rfl, HFIN.out _ (by omega)⟩
    | exact ⟨rfl, by have h9 := HFIN.out _ rfl; rw [show ((min frm x.n : Nat) : Int) = min (frm : Int) (x.n : Int) by omega] at h9; exact h9⟩
  ·have hu : (Pp.usedF s.l (x.n : Int)).isSome = true := Pp.usedF_some.2 ⟨x, List.mem_of_getElem? hx, rfl, h2⟩
   have HDL : Hid (Pa.dropL s.l i x = s.l.set i { x with state := 3 }) := if_neg h2
   show Calls _ _ _ _ (fun e w' => _ ∧ TurnsP f { s with l := Pa.dropL s.l i x } F b bf w w')
   rw [HDL.out]
   have HU := Lib.hid hu
   have H2 := Lib.hid h2
   clear h hnd hdr hx hxs hf2 hxn HDL h2 hu
   go_enter Tryz.func22, Tryz.ntmps22
   go_wp2_with fail
   refine CM.out.mono ?_
   rintro e w1 ⟨rfl, rfl⟩
   clear CM
   go_wp2_with fail
   refine CN.out.mono ?_
   rintro e w2 ⟨rfl, b2⟩
   have HH2 := Lib.hid (HH.out.below b2)
   have HB2 := Lib.hid b2
   have h9 : w2.cell? ⟨b, 9, none⟩ = some (.map (some U)) := HH2.out.cell rfl
   have CH := Lib.hid (pyhas_any HH2.out.used (x.n : Int) hn)
   rw [HU.out] at CH
   clear CN b2
   go_wp2_with fail
   refine CH.out.mono ?_
   rintro e w3 ⟨rfl, b3⟩
   have HH3 := Lib.hid (HH2.out.below b3)
   have HB3 := Lib.hid (HB2.out.trans (b3.mono HB2.out.size))
   have h10 : w3.cell? ⟨b, 10, none⟩ = some (.map (some D)) := HH3.out.cell rfl
   clear CH b3 h9
   go_wp2_with (at_mapUpdate; refine wpList_mapUpdate_mp _ nuM rfl _ _ _ rfl D 65536 _ rfl HH3.out.drop (by simp only [maxLen]; omega) (x.n : Int) rfl hok () rfl ?_)
   intro w4 hm4 hg4
   have HM4 := Lib.hid hm4
   have HG4 := Lib.hid hg4
   clear hm4 hg4 h10
   go_wp2
   go_ret
   refine ⟨rfl, ?_⟩
   have h := HH3.out
   have hX := HX.out
   have hsb := h.sb
   have hsu := h.su
   have hsd := h.sd
   have hms := h.ms
   have hxf := HF2.out
   have hx2 := H2.out
   have hmem : ∀ y, y ∈ s.l.set i { x with state := 3 } ↔ (y ∈ s.l ∧ y.n ≠ x.n) ∨ y = { x with state := 3 } := fun y => Pp.set_mem h.sound.rise hX
   have hT : Turned (fun k => k = D) w3 w4 := (Turned.of_grown HG4.out).mono (fun k _ h => (Option.some.inj h).symm)
   have hT' : Turned f.M w3 w4 := hT.mono (fun k _ hk => by subst hk; exact hms.2.2.1)
   have hf2 : ∀ y ∈ s.l.set i { x with state := 3 }, 2 ≤ y.n ∧ y.n < 65536 ∧ (y.state = 1 ∨ y.state = 2 ∨ y.state = 3) := fun y hy => by
    rcases (hmem y).1 hy with ⟨h1, _⟩ | rfl
    ·exact h.sound.from2 y h1
    ·exact ⟨hxf.1, hxf.2.1, .inr (.inr rfl)⟩
   have hu : Pp.usedF (s.l.set i { x with state := 3 }) = Pp.usedF s.l := Pp.unit_ext (fun k => by
    rw [Pp.usedF_some, Pp.usedF_some]
    constructor
    ·rintro ⟨y, hy, h1, h2⟩
     rcases (hmem y).1 hy with ⟨h3, _⟩ | rfl
     ·exact ⟨y, h3, h1, h2⟩
     ·exact ⟨x, List.mem_of_getElem? hX, h1, hx2⟩
    ·rintro ⟨y, hy, h1, h2⟩
     by_cases e : y.n = x.n
     ·exact ⟨_, (hmem _).2 (.inr rfl), by rw [← h1, ← e], by show (3 : Nat) ≠ 2; omega⟩
     ·exact ⟨y, (hmem y).2 (.inl ⟨hy, e⟩), h1, h2⟩)
   have hd : (fun k => if k = (x.n : Int) then some () else Pp.dropF s.l k) = Pp.dropF (s.l.set i { x with state := 3 }) := Pp.unit_ext (fun k => by
    rw [Pp.dropF_some]
    by_cases hk : k = (x.n : Int)
    ·rw [if_pos hk]
     exact ⟨fun _ => ⟨_, (hmem _).2 (.inr rfl), hk.symm, rfl⟩, fun _ => rfl⟩
    ·rw [if_neg hk, Pp.dropF_some]
     constructor
     ·rintro ⟨y, hy, h1, h2⟩
      exact ⟨y, (hmem y).2 (.inl ⟨hy, by omega⟩), h1, h2⟩
     ·rintro ⟨y, hy, h1, h2⟩
      rcases (hmem y).1 hy with ⟨h3, _⟩ | rfl
      ·exact ⟨y, h3, h1, h2⟩
      ·exact absurd h1.symm hk)
   have hdrop : IsMp nuM w4 D 65536 (Pp.dropF (s.l.set i { x with state := 3 })) := by
    have := HM4.out
    rw [hd] at this
    exact this.tight nuM_ok nu_ok (Pp.small_drop hf2)
   have hnew := h.make (l' := s.l.set i { x with state := 3 }) (frm' := frm) (fP' := fP) f.R (fun _ h => h) (fun k hk => ⟨(h.r k hk).1, Nat.lt_of_lt_of_le (h.r k hk).2 hT.size⟩) hT' ((hT.block b h.head.lt (by omega)).trans h.head)
    (by rw [hu]; exact h.used.turned_ hT (by omega)) hdrop (h.pend.turned_ hT (by omega)) (h.hand.turned_ hT (by omega))
    (fun k c hc => by
     obtain ⟨y, a1, a2, a3, a4⟩ := h.hpend k c hc
     exact ⟨y, (hmem y).2 (.inl ⟨a1, fun e => hx2 (by rw [← Pp.rising_inj h.sound.rise a1 (List.mem_of_getElem? hX) e]; exact a3)⟩), a2, a3, a4.turned hT' (fun q hq hm => (h.r q hq).1 hm)⟩)
    (fun y hy hs => by
     rcases (hmem y).1 hy with ⟨h1, h2⟩ | rfl
     ·exact h.there y h1 hs
     ·cases hs)
    (fun y hy hs => by
     by_cases e : y.n = x.n
     ·exact ⟨_, (hmem _).2 (.inr rfl), e.symm, by show (3 : Nat) ≠ 2; omega⟩
     ·exact ⟨y, (hmem y).2 (.inl ⟨hy, e⟩), rfl, hs⟩) h.from2 (fun k h1 h2 => by
     obtain ⟨y, hy, hn⟩ := h.full k h1 h2
     by_cases e : y.n = x.n
     ·exact ⟨_, (hmem _).2 (.inr rfl), by rw [← hn, e]⟩
     ·exact ⟨y, (hmem y).2 (.inl ⟨hy, e⟩), hn⟩) (by
     have := Pp.rising_drop h.sound.rise hX
     unfold Pa.dropL at this
     rwa [if_neg hx2] at this) hf2
   exact ⟨f, ⟨_, _, _, _, _, _, _, _, hnew⟩, Fp.Next.refl _ _, ((Turned.of_below HB3.out).mono (G := f.M) (fun q hq h => absurd hq (by omega))).trans hT' (fun _ _ h => h)⟩
end
end Go.Proofs.YtiafeniflkikeaaGreat
namespace Go.Proofs.YtiafeniflkikeaaGreat
open Go.RowKit
set_option linter.unusedVariables false
namespace Pp
theorem gap_in {l : List Pa.Page} : ∀ {c j : Nat}, j < Pa.gap l c → ∃ x ∈ l, x.n = c + j := by
 induction l with
 | nil => intro c j h; simp [Pa.gap] at h
 | cons y l ih =>
  intro c j h
  unfold Pa.gap at h
  split at h
  ·rename_i hy
   cases j with
   | zero => exact ⟨y, by simp, hy⟩
   | succ j =>
    obtain ⟨x, hx, hn⟩ := ih (c := c + 1) (j := j) (by omega)
    exact ⟨x, by simp [hx], by omega⟩
  ·omega
theorem gap_free {l : List Pa.Page} (hr : Pa.Rising l) (h2 : ∀ x ∈ l, 2 ≤ x.n) : ∀ x ∈ l, x.n ≠ 2 + Pa.gap l 2 := by
 obtain ⟨h3, h4⟩ := gap_spec hr h2
 intro x hx
 rw [← List.take_append_drop (Pa.gap l 2) l] at hx
 rcases List.mem_append.1 hx with hx | hx
 ·have := h3 x hx; omega
 ·have := h4 x hx; omega
theorem gap_is {l : List Pa.Page} (hr : Pa.Rising l) (h2 : ∀ x ∈ l, 2 ≤ x.n) {k : Nat} (hk : 2 ≤ k) (hf : ∀ j : Nat, 2 ≤ j → j < k → ∃ x ∈ l, x.n = j) : k ≤ 2 + Pa.gap l 2 := by
 apply Decidable.byContradiction
 intro h
 obtain ⟨x, hx, hn⟩ := hf (2 + Pa.gap l 2) (by omega) (by omega)
 exact gap_free hr h2 x hx hn
theorem gap_at2 {l : List Pa.Page} (hr : Pa.Rising l) (h2 : ∀ x ∈ l, 2 ≤ x.n) {k : Nat} (hk : 2 ≤ k) (hf : ∀ j : Nat, 2 ≤ j → j < k → ∃ x ∈ l, x.n = j) (hn : ∀ x ∈ l, x.n ≠ k) : 2 + Pa.gap l 2 = k := by
 have h1 := gap_is hr h2 hk hf
 apply Decidable.byContradiction
 intro h
 obtain ⟨x, hx, hxn⟩ := gap_in (l := l) (c := 2) (j := k - 2) (by omega)
 exact hn x hx (by omega)
theorem add_mem {l : List Pa.Page} {kd : Nat} {b : List Nat} {x : Pa.Page} : x ∈ Pa.addL l kd b ↔ x ∈ l ∨ x = ⟨2 + Pa.gap l 2, 2, kd, b⟩ := by
 constructor
 ·exact mem_add
 ·unfold Pa.addL
  rintro (h | h)
  ·rw [← List.take_append_drop (Pa.gap l 2) l] at h
   rcases List.mem_append.1 h with h | h
   ·exact List.mem_append.2 (.inl h)
   ·exact List.mem_append.2 (.inr (List.mem_cons_of_mem _ h))
  ·exact List.mem_append.2 (.inr (by rw [h]; exact List.mem_cons_self ..))
end Pp
section
variable {w w' : World} {f fp : Fp} {s : Pp.S} {F : List Nat} {b bf U D P H last frm : Nat} {fP : Int → Option RawU} {fH : Int → Option RawH}
def pyFrom (w : World) (b : Nat) : Nat := match w.cell? ⟨b, 15, none⟩ with
 | some (.int _ k) => k.toNat
 | _ => 0
theorem pyFrom_of {k : Nat} (h : w.cell? ⟨b, 15, none⟩ = some (.int .i64 (k : Nat))) : pyFrom w b = k := by unfold pyFrom; rw [h]; rfl
theorem PyHas.from_ {k : Nat} (h : PyHas w fp s F b bf U D P H last frm fP fH) (hT : Turned (fun q => q = b) w w') (hh : Rw w' b 79 (pyC bf s U D P H last k)) (hk : 2 ≤ k ∧ k ≤ 65536) (hf : ∀ j : Nat, 2 ≤ j → j < k → ∃ x ∈ s.l, x.n = j) :
  PyHas w' fp s F b bf U D P H last k fP fH := by
 have hsb := h.sb
 have hr : ∀ q, fp.R q → ¬ q = b := fun q hq e => (h.r q hq).1 (e ▸ h.ms.1)
 exact ⟨hh, h.used.turned_ hT (by omega), h.drop.turned_ hT (by omega), h.pend.turned_ hT (by omega), h.hand.turned_ hT (by omega), fun j c hc => by obtain ⟨x, a1, a2, a3, a4⟩ := h.hpend j c hc; exact ⟨x, a1, a2, a3, a4.turned hT hr⟩, h.there,
  fun j c hc => by obtain ⟨a1, a2, kd, bd, a3, a4⟩ := h.hhand j c hc; exact ⟨a1, a2, kd, bd, a3.turned hT hr, a4⟩, h.few, h.last, hk, hf, h.sound, h.m, fun q hq => ⟨(h.r q hq).1, Nat.lt_of_lt_of_le (h.r q hq).2 hT.size⟩, h.sb, h.su, h.sd, h.sp⟩
set_option maxHeartbeats 4000000 in
set_option maxRecDepth 100000 in
theorem ppadd_any (kd : Nat) (v : Value) (body : List Nat) (B : Nat) (h : PPager w f s F b bf) (hk : kd < 256) (hv : Lv yK w B v body) (hB : B ≤ w.heap.size) (hM : 0 < body.length → ∀ k, v.ownBlock = some k → ¬ f.M k) :
 Calls Tryz.prog 19 #[.pointer (some ⟨b, 0, none⟩), .int .u8 (kd : Nat), v] w (fun e w' => e = .returned (.tuple #[.int .i64 ((Pa.add (Pp.asM s F) kd body).2.1 : Nat), .int .i64 ((Pa.add (Pp.asM s F) kd body).2.2 : Nat)]) ∧ TurnsP f { s with l := (Pa.add (Pp.asM s F) kd body).1.l } F b bf w w') := by
 obtain ⟨U, D, P, H, last, frm, fP, fH, h⟩ := h
 have CM := Lib.hid (pymade_any (h.cell rfl))
 have HH := Lib.hid h
 have HV := Lib.hid hv
 have HM := Lib.hid hM
 obtain ⟨A, c, rfl, hlc, hcm, hnil, hvr⟩ := hv
 obtain ⟨bl, hbl⟩ : ∃ n, body.length = n := ⟨_, rfl⟩
 by_cases hlim : 496 < bl
 ·have HE : Hid (Pa.add (Pp.asM s F) kd body = (Pp.asM s F, 0, 3)) := by unfold Hid Pa.add; rw [hbl]; exact if_pos hlim
  rw [HE.out]
  rw [hbl] at hlc
  have hd : decide ((496 : Int) < (bl : Int)) = true := decide_eq_true (by omega)
  rw [hbl]
  clear h hnil hvr hM hlc hcm hbl
  go_enter Tryz.func19, Tryz.ntmps19
  go_wp2_with fail
  refine CM.out.mono ?_
  rintro e w1 ⟨rfl, rfl⟩
  clear CM
  go_wp2
  go_ret2
  exact ⟨rfl, TurnsP.same HH.out (Below.refl _ _)⟩
 ·have hd : decide ((496 : Int) < (bl : Int)) = false := decide_eq_false (by omega)
  have HBL := Lib.hid (And.intro hbl hlim)
  rw [hbl] at hlc
  rw [hbl]
  clear h hnil hvr hM hlc hcm hbl hlim
  go_enter Tryz.func19, Tryz.ntmps19
  go_wp2_with fail
  refine CM.out.mono ?_
  rintro e w1 ⟨rfl, rfl⟩
  clear CM
  go_wp2_with fail
  go_loopw [] (fun wr => ∃ k, Hid (PyHas wr f s F b bf U D P H last k fP fH) ∧ Hid (Turned (fun q => q = b ∨ w.heap.size ≤ q) w wr)) (fun wr => 65536 - pyFrom wr b)
  case atStart => exact ⟨frm, HH.out, (Turned.refl _ _)⟩
  case round =>
   obtain ⟨k, HHR, HTR⟩ := hrel
   have c15 : wr.cell? ⟨b, 15, none⟩ = some (.int .i64 (k : Nat)) := HHR.out.cell rfl
   have hk2 := HHR.out.from2
   have HK2 := Lib.hid hk2
   by_cases hlt : k < 65536
   ·have hd1 : decide ((k : Int) < 65536) = true := decide_eq_true (by omega)
    have CF := Lib.hid (pyisFree_any HHR.out (k : Int) (by unfold I64; omega))
    clear hk2
    cases hf : Pa.find s.l (k : Int) with
    | some x =>
     rw [hf] at CF
     go_wp2_with fail
     refine CF.out.mono ?_
     rintro e w2 ⟨rfl, b2⟩
     have HH2 := Lib.hid (HHR.out.below b2)
     have HB2 := Lib.hid b2
     have d15 : w2.cell? ⟨b, 15, none⟩ = some (.int .i64 (k : Nat)) := HH2.out.cell rfl
     have f15 : w2.frozen? ⟨b, 15, none⟩ = false := HH2.out.head.frozen 15
     have hw1 : IntKind.i64.wrap ((k : Int) + 1) = (k : Int) + 1 := by rw [IntKind.wrap_i64]; omega
     obtain ⟨w3, hw3⟩ : ∃ w3, w2.setCell ⟨b, 15, none⟩ (.int .i64 ((k : Int) + 1)) = w3 := ⟨_, rfl⟩
     have HW3 := Lib.hid hw3
     have HX := Lib.hid hf
     clear CF b2 c15 hd1 hf
     go_wp2
     have hT3 : Turned (fun q => q = b) w2 w3 := by rw [← HW3.out]; exact (Turned.refl (fun q => q = b) w2).setCell (p := ⟨b, 15, none⟩) (fun _ => rfl) _
     have hR3 : Rw w3 b 79 (pyC bf s U D P H last (k + 1)) := by rw [← HW3.out, ← pyC_from bf s U D P H last k (k + 1)]; exact HH2.out.head.set 15 _
     have hP3 := HH2.out.from_ (k := k + 1) hT3 hR3 (by have := HK2.out; omega) (fun j h1 h2 => by
      by_cases e : j = k
      ·obtain ⟨y, hy, hn⟩ := Pa.find_some.1 (by rw [HX.out]; rfl)
       exact ⟨y, hy, by omega⟩
      ·exact HH2.out.full j h1 (by omega))
     refine ⟨⟨k + 1, hP3, ?_⟩, ?_⟩
     ·have h1 : Turned (fun q => q = b ∨ w.heap.size ≤ q) w w2 := HTR.out.trans (Turned.of_below HB2.out) (fun q h h' => by have := HTR.out.size; omega)
      exact h1.trans hT3 (fun q _ h => .inl h)
     ·rw [pyFrom_of (k := k + 1) (hP3.cell rfl), pyFrom_of (k := k) (HHR.out.cell rfl)]
      omega
    | none =>
     rw [hf] at CF
     have HFR : Hid (∀ x ∈ s.l, x.n ≠ k) := fun x hx e => by
      have := Pa.find_some.2 ⟨x, hx, show (x.n : Int) = (k : Int) by omega⟩
      rw [hf] at this; cases this
     go_wp2_with fail
     refine CF.out.mono ?_
     rintro e w2 ⟨rfl, b2⟩
     have HH2 := Lib.hid (HHR.out.below b2)
     have HT2 : Hid (Turned (fun q => q = b ∨ w.heap.size ≤ q) w w2) := HTR.out.trans (Turned.of_below b2) (fun q h h' => by have := HTR.out.size; omega)
     have d15 : w2.cell? ⟨b, 15, none⟩ = some (.int .i64 (k : Nat)) := HH2.out.cell rfl
     have hd2 : decide ((65536 : Int) ≤ (k : Int)) = false := decide_eq_false (by omega)
     have hlv2 : Lv yK w2 B (.slice A body.length c) body := HV.out.turnedB_ HT2.out (fun hp q hq h => by
      rcases h with rfl | h
      ·exact HM.out hp _ hq HH.out.ms.1
      ·have := HV.out.blk_ hp hq; omega)
     obtain ⟨Y, hY⟩ : ∃ Y, w2.drew = Y := ⟨_, rfl⟩
     have HYB : Hid (Below w2.heap.size w2 Y) := by unfold Hid; rw [← hY]; exact below_drewN (Below.refl _ _) 1
     have HHY := Lib.hid (HH2.out.below HYB.out)
     have hlvY : Lv yK Y B (.slice A body.length c) body := by rw [← hY]; exact hlv2.drew_
     have CC := Lib.hid (pbclone_any _ _ B Y hlvY (by have := HT2.out.size; have := HYB.out.size; omega) (by have := HBL.out; omega))
     have HCC : Hid (∀ w', Below Y.heap.size Y w' → w'.cell? ⟨b, 11, none⟩ = some (.map (some P)) ∧ w'.cell? ⟨b, 15, none⟩ = some (.int .i64 (k : Nat))) := fun w' hw => ⟨(HHY.out.below hw).cell rfl, (HHY.out.below hw).cell rfl⟩
     clear CF b2 c15 hd1 hf hlv2 hlvY
     rw [HBL.out.1] at CC
     go_wp2_with fail
     refine wp_region_m (fun w' => Below Y.heap.size Y w') 12 (by kernel_rfl) ?_
     rw [hY]
     have hH : Below Y.heap.size Y Y := Below.refl _ _
     refine zM (i := 0) (v := ?_) rfl (by kernel_rfl) (fun _ _ _ h => h) hH (Or.inl ⟨by rfl, (by intro w' hSw; obtain ⟨s0, s1⟩ := HCC.out w' hSw; go_simp; first | done | with_reducible rfl)⟩) ?_
     try simp only [Act.put, zA, zC, zD, zE, zF]
     refine zM (i := 1) (v := ?_) rfl (by kernel_rfl) (fun _ _ _ h => h) hH (Or.inl ⟨by rfl, (by intro w' hSw; obtain ⟨s0, s1⟩ := HCC.out w' hSw; go_simp; first | done | with_reducible rfl)⟩) ?_
     try simp only [Act.put, zA, zB, zC, zD, zE, zF]
     refine zM (i := 2) (v := ?_) rfl (by kernel_rfl) (fun _ _ _ h => h) hH (Or.inl ⟨by rfl, (by intro w' hSw; obtain ⟨s0, s1⟩ := HCC.out w' hSw; go_simp; first | done | with_reducible rfl)⟩) ?_
     try simp only [Act.put, zA, zB, zC, zD, zE, zF]
     refine zM (i := 3) (v := ?_) rfl (by kernel_rfl) (fun _ _ _ h => h) hH (Or.inl ⟨by rfl, (by intro w' hSw; obtain ⟨s0, s1⟩ := HCC.out w' hSw; go_simp; first | done | with_reducible rfl)⟩) ?_
     try simp only [Act.put, zA, zB, zC, zD, zE, zF]
     refine zM (i := 4) (v := ?_) rfl (by kernel_rfl) (fun _ _ _ h => h) hH (Or.inl ⟨by rfl, (by intro w' hSw; obtain ⟨s0, s1⟩ := HCC.out w' hSw; go_simp; first | done | with_reducible rfl)⟩) ?_
     try simp only [Act.put, zA, zB, zC, zD, zE, zF]
     refine zM (i := 5) (v := ?_) rfl (by kernel_rfl) (fun _ _ _ h => h) hH (Or.inl ⟨by rfl, (by intro w' hSw; obtain ⟨s0, s1⟩ := HCC.out w' hSw; go_simp; first | done | with_reducible rfl)⟩) ?_
     try simp only [Act.put, zA, zB, zC, zD, zE, zF]
     refine zM (i := 6) (v := ?_) rfl (by kernel_rfl) (fun _ _ _ h => h) hH (Or.inl ⟨by rfl, (by intro w' hSw; obtain ⟨s0, s1⟩ := HCC.out w' hSw; go_simp; first | done | with_reducible rfl)⟩) ?_
     try simp only [Act.put, zA, zB, zC, zD, zE, zF]
     refine zM (i := 7) (v := ?_) rfl (by kernel_rfl) (fun _ _ _ h => h) hH (Or.inl ⟨by rfl, (by intro w' hSw; obtain ⟨s0, s1⟩ := HCC.out w' hSw; go_simp; first | done | with_reducible rfl)⟩) ?_
     try simp only [Act.put, zA, zB, zC, zD, zE, zF]
     refine zM (i := 8) (v := ?_) rfl (by kernel_rfl) (fun _ _ _ h => h) hH (Or.inl ⟨by rfl, (by intro w' hSw; obtain ⟨s0, s1⟩ := HCC.out w' hSw; go_simp; first | done | with_reducible rfl)⟩) ?_
     try simp only [Act.put, zA, zB, zC, zD, zE, zF]
     refine zM (i := 9) (v := ?_) rfl (by kernel_rfl) (fun _ _ _ h => h) hH (Or.inl ⟨by rfl, (by intro w' hSw; obtain ⟨s0, s1⟩ := HCC.out w' hSw; go_simp; first | done | with_reducible rfl)⟩) ?_
     try simp only [Act.put, zA, zB, zC, zD, zE, zF]
     refine wpAnyM_next (i := 10) (by kernel_rfl) rfl (fun K hK => ?_)
     go_simp
     refine CC.out.mono ?_
     rintro e w3 ⟨A3, c3, rfl, ho3, b3⟩
     refine hK.out _ _ (.inr b3) ?_
     clear hK K CC
     try simp only [Act.put, zA, zB, zC, zD, zE, zF]
     have hbt := ct_built kd A3 body.length c3
     refine zM (i := 11) (v := ?_) rfl (by kernel_rfl) (fun _ _ _ h => h) b3 (Or.inl ⟨by rfl, (by intro w' hSw; skip; go_simp; first | done | with_reducible rfl)⟩) ?_
     try simp only [Act.put, zA, zB, zC, zD, zE, zF]
     obtain ⟨fN, hfN⟩ : ∃ fN : Int → Option RawU, (fun j => if j = (k : Int) then some (⟨kd, ⟨A3, body.length, c3⟩⟩ : RawU) else fP j) = fN := ⟨_, rfl⟩
     have HH3 := Lib.hid (HHY.out.below b3)
     have HO3 := Lib.hid ho3
     have hokk : peM.ok (k : Int) := i64_ok (by unfold I64; omega)
     obtain ⟨w4, hup, hm4, hg4⟩ := HH3.out.pend.upd (by simp only [maxLen]; omega) hokk (⟨kd, ⟨A3, body.length, c3⟩⟩ : RawU)
     change (Instr.mapUpdate 74 (.map (some P)) (.int .i64 (k : Nat)) (.agg #[.int .u8 (kd : Nat), .slice A3 body.length c3])).run Tryz.prog w3 = .ok () w4 at hup
     rw [hfN] at hm4
     have HM4 := Lib.hid hm4
     have HG4 := Lib.hid hg4
     have HT3 : Hid (Turned (fun q => q = b ∨ w.heap.size ≤ q) w w3) := (HT2.out.trans (Turned.of_below HYB.out) (fun q h h' => by have := HT2.out.size; omega)).trans (Turned.of_below b3) (fun q h h' => by have := HT2.out.size; have := HYB.out.size; omega)
     have HFN := Lib.hid hfN
     have HYS : Hid (w.heap.size ≤ Y.heap.size) := Nat.le_trans HT2.out.size HYB.out.size
     refine wpAnyM_next (i := 12) (by kernel_rfl) rfl (fun K hK => ?_)
     go_simp
     refine hK.out _ _ (.inl (Nat.le_refl _)) ?_
     clear hK K hup hm4 hg4 hfN ho3 hokk b3 hH d15 hbt hd2
     try simp only [Act.put, zA, zB, zC, zD, zE, zF]
     refine wpAnyM_done (by kernel_rfl) ?_ _
     have hT4 : Turned (fun q => q = P) w3 w4 := (Turned.of_grown HG4.out).mono (fun q _ h => (Option.some.inj h).symm)
     have e15 : w4.cell? ⟨b, 15, none⟩ = some (.int .i64 (k : Nat)) := by
      have hr : Rw w4 b 79 (pyC bf s U D P H last k) := (hT4.block b HH3.out.head.lt (fun e => HH3.out.sb.2.2.1 e)).trans HH3.out.head
      exact hr.cell 15
     have HT4 := Lib.hid hT4
     clear hT4
     go_wp2
     go_ret2
     have h := HH3.out
     have hgp : 2 + Pa.gap s.l 2 = k := Pp.gap_at2 h.sound.rise (fun x hx => (h.sound.from2 x hx).1) HK2.out.1 h.full HFR.out
     have hbl := HBL.out
     have HE : Pa.add (Pp.asM s F) kd body = ({ (Pp.asM s F) with l := Pa.addL s.l kd body }, k, 0) := by
      unfold Pa.add
      rw [if_neg (by omega)]
      show (if 65536 ≤ 2 + Pa.gap s.l 2 then _ else _) = _
      rw [if_neg (by omega)]
      show (_, 2 + Pa.gap s.l 2, 0) = _
      rw [hgp]
      rfl
     rw [HE]
     refine ⟨rfl, ?_⟩
     show TurnsP f { s with l := Pa.addL s.l kd body } F b bf w w4
     have hms := h.ms
     have hsb := h.sb
     have hsu := h.su
     have hsd := h.sd
     have hsp := h.sp
     have hT := HT4.out
     have hT' : Turned f.M w3 w4 := hT.mono (fun q _ hq => by subst hq; exact hms.2.2.2.1)
     have hmem : ∀ x, x ∈ Pa.addL s.l kd body ↔ x ∈ s.l ∨ x = ⟨k, 2, kd, body⟩ := fun x => by rw [Pp.add_mem, hgp]
     have hown : ∀ q, (Value.slice A3 body.length c3).ownBlock = some q → Y.heap.size ≤ q ∧ q < w3.heap.size := fun q hq => OwnL.lt_ HO3.out q hq
     have hYs := HYS.out
     have hlt0 := HH.out.lt
     have hnP : ∀ q, (Value.slice A3 body.length c3).ownBlock = some q → ¬ f.M q := fun q hq hm => by have := hlt0 q (.inl hm); have := hown q hq; omega
     have hin : InB w4 (fun q => f.R q ∨ (Value.slice A3 body.length c3).ownBlock = some q) ⟨kd, ⟨A3, body.length, c3⟩⟩ kd body :=
      ⟨rfl, hk, ((HO3.out.form_).turnedB_ hT' (fun _ q hq => hnP q hq)).mono_ hT.size, by omega, fun _ q hq => .inr hq⟩
     have hu : Pp.usedF (Pa.addL s.l kd body) = Pp.usedF s.l := Pp.unit_ext (fun j => by
      rw [Pp.usedF_some, Pp.usedF_some]
      constructor
      ·rintro ⟨y, hy, h1, h2⟩
       rcases (hmem y).1 hy with hy | rfl
       ·exact ⟨y, hy, h1, h2⟩
       ·exact absurd rfl h2
      ·rintro ⟨y, hy, h1, h2⟩
       exact ⟨y, (hmem y).2 (.inl hy), h1, h2⟩)
     have hd : Pp.dropF (Pa.addL s.l kd body) = Pp.dropF s.l := Pp.unit_ext (fun j => by
      rw [Pp.dropF_some, Pp.dropF_some]
      constructor
      ·rintro ⟨y, hy, h1, h2⟩
       rcases (hmem y).1 hy with hy | rfl
       ·exact ⟨y, hy, h1, h2⟩
       ·cases h2
      ·rintro ⟨y, hy, h1, h2⟩
       exact ⟨y, (hmem y).2 (.inl hy), h1, h2⟩)
     have hfN := HFN.out
     have hsm : Pp.Small fN := fun j cc hc => by
      rw [← hfN] at hc
      simp only at hc
      split at hc
      ·omega
      ·exact h.small_pend j cc hc
     have hnew := h.make (l' := Pa.addL s.l kd body) (frm' := k) (fP' := fN) (fun q => f.R q ∨ (Value.slice A3 body.length c3).ownBlock = some q) (fun _ h => .inl h)
      (fun q hq => by
       rcases hq with hq | hq
       ·exact ⟨(h.r q hq).1, Nat.lt_of_lt_of_le (h.r q hq).2 hT.size⟩
       ·exact ⟨hnP q hq, by have := hown q hq; have := hT.size; omega⟩) hT' ((hT.block b h.head.lt (by omega)).trans h.head)
      (by rw [hu]; exact h.used.turned_ hT (by omega)) (by rw [hd]; exact h.drop.turned_ hT (by omega)) (HM4.out.tight peM_ok pe_ok hsm) (h.hand.turned_ hT (by omega))
      (fun j cc hc => by
       rw [← hfN] at hc
       simp only at hc
       split at hc
       ·rename_i e
        have e2 := Option.some.inj hc
        subst e2
        exact ⟨⟨k, 2, kd, body⟩, (hmem _).2 (.inr rfl), e.symm, rfl, hin⟩
       ·obtain ⟨y, a1, a2, a3, a4⟩ := h.hpend j cc hc
        exact ⟨y, (hmem y).2 (.inl a1), a2, a3, (a4.turned hT' (fun q hq hm => (h.r q hq).1 hm)).more (fun _ h => .inl h)⟩)
      (fun y hy hs => by
       rw [← hfN]
       simp only
       split
       ·rfl
       ·rename_i hne
        rcases (hmem y).1 hy with hy | rfl
        ·exact h.there y hy hs
        ·exact absurd rfl hne)
      (fun y hy hs => ⟨y, (hmem y).2 (.inl hy), rfl, hs⟩) HK2.out (fun j h1 h2 => by
       obtain ⟨y, hy, hn⟩ := h.full j h1 h2
       exact ⟨y, (hmem y).2 (.inl hy), hn⟩) (Pp.rising_add h.sound.rise (fun x hx => (h.sound.from2 x hx).1) kd body) (fun y hy => by
       rcases (hmem y).1 hy with hy | rfl
       ·exact h.sound.from2 y hy
       ·exact ⟨HK2.out.1, by show k < 65536; omega, .inr (.inl rfl)⟩)
     refine ⟨_, ⟨_, _, _, _, _, _, _, _, hnew⟩, ⟨fun q hq => .inl hq, fun q hq => hq.imp id (fun h => by have := hown q h; omega)⟩, ?_⟩
     have h3 : Turned f.M w w3 := HT3.out.mono (fun q hq h => by rcases h with rfl | h; exact hms.1; omega)
     exact h3.trans hT' (fun _ _ h => h)
   ·have e : k = 65536 := by omega
    subst e
    clear hlt hk2
    have hd1 : decide ((65536 : Int) < 65536) = false := rfl
    go_wp2
    go_ret2
    have h := HHR.out
    have hbl := HBL.out
    have hge := Pp.gap_is h.sound.rise (fun x hx => (h.sound.from2 x hx).1) (by omega) h.full
    have HE : Pa.add (Pp.asM s F) kd body = (Pp.asM s F, 0, 3) := by
     unfold Pa.add
     rw [if_neg (by omega)]
     show (if 65536 ≤ 2 + Pa.gap s.l 2 then _ else _) = _
     rw [if_pos hge]
    rw [HE]
    exact ⟨rfl, f, ⟨_, _, _, _, _, _, _, _, h⟩, Fp.Next.refl _ _, HTR.out.mono (fun q hq h' => by rcases h' with rfl | h'; exact h.ms.1; omega)⟩
end
end Go.Proofs.YtiafeniflkikeaaGreat
