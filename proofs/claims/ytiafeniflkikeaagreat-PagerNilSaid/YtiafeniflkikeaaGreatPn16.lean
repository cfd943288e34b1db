/- Parts of the proof. -/
import Derived.Test.YtiafeniflkikeaaGreatPn15
namespace Go.Proofs.YtiafeniflkikeaaGreat.Pp
structure Goes (s : S) (F : List Nat) (m : Pa.M) : Prop where
 root : s.root = m.root
 l : s.l.map bare = m.l.map bare
 ok : Pa.Ok m
 size : m.size = F.length
 page : ∀ x ∈ m.l, x.state ≠ 2 → rdE F x.n = (x.kind, x.body, 0)
 less : ∀ x ∈ m.l, x.state ≠ 2 → (x.n : Int) < m.root.pages
 told : told F = (m.root, 0)
theorem bare_n (x : Pa.Page) : (bare x).n = x.n := by unfold bare; split <;> rfl
theorem bare_state (x : Pa.Page) : (bare x).state = x.state := by unfold bare; split <;> rfl
theorem bare_pend {x : Pa.Page} (h : x.state = 2) : bare x = x := if_pos h
theorem bare_held {x : Pa.Page} (h : x.state ≠ 2) : bare x = { x with kind := 0, body := [] } := if_neg h
theorem at_eq {l l' : List Pa.Page} (h : l.map bare = l'.map bare) (i : Nat) : (l[i]?).map bare = (l'[i]?).map bare := by
 have := congrArg (fun z => z[i]?) h
 simpa using this
theorem idx_bare (l : List Pa.Page) (n : Int) : Pa.idx (l.map bare) n = Pa.idx l n := by
 unfold Pa.idx
 induction l with
 | nil => rfl
 | cons x l ih =>
  rw [List.map_cons, List.findIdx?_cons, List.findIdx?_cons, bare_n, ih]
theorem idx_eq {l l' : List Pa.Page} (h : l.map bare = l'.map bare) (n : Int) : Pa.idx l n = Pa.idx l' n := by rw [← idx_bare l, ← idx_bare l', h]
theorem gap_bare (l : List Pa.Page) : ∀ c, Pa.gap (l.map bare) c = Pa.gap l c := by
 induction l with
 | nil => intro c; rfl
 | cons x l ih =>
  intro c
  rw [List.map_cons]
  unfold Pa.gap
  rw [bare_n]
  split
  ·rw [ih]
  ·rfl
theorem gap_eq {l l' : List Pa.Page} (h : l.map bare = l'.map bare) (c : Nat) : Pa.gap l c = Pa.gap l' c := by rw [← gap_bare l, ← gap_bare l', h]
theorem kept_bare (l : List Pa.Page) : ((Pa.keep l).map Pa.used).map bare = ((Pa.keep (l.map bare)).map Pa.used).map bare := by
 unfold Pa.keep
 rw [List.filter_map, List.map_map, List.map_map, List.map_map]
 have h1 : ((fun x : Pa.Page => decide (x.state ≠ 3)) ∘ bare) = fun x => decide (x.state ≠ 3) := by funext x; simp [bare_state]
 rw [h1]
 refine List.map_congr_left fun x hx => ?_
 simp only [Function.comp_apply, Pa.used]
 rw [bare_held (by simp), bare_held (by simp)]
 simp [bare_n]
theorem kept_eq {l l' : List Pa.Page} (h : l.map bare = l'.map bare) : ((Pa.keep l).map Pa.used).map bare = ((Pa.keep l').map Pa.used).map bare := by rw [kept_bare l, kept_bare l', h]
theorem pages_bare (l : List Pa.Page) : Pa.pages (l.map bare) = Pa.pages l := by
 unfold Pa.pages
 rw [List.foldl_map]
 congr 1
 funext p x
 rw [bare_state, bare_n]
theorem sizeL_bare (s : Nat) (l : List Pa.Page) : Pa.sizeL s (l.map bare) = Pa.sizeL s l := by
 unfold Pa.sizeL
 rw [List.foldl_map]
 congr 1
 funext p x
 rw [bare_state, bare_n]
theorem there_bare (l : List Pa.Page) (p : Int) : Pa.there (l.map bare) p = Pa.there l p := by
 unfold Pa.there Pa.keep
 rw [List.filter_map, List.any_map]
 have h1 : ((fun x : Pa.Page => decide (x.state ≠ 3)) ∘ bare) = fun x => decide (x.state ≠ 3) := by funext x; simp [bare_state]
 have h2 : ((fun x : Pa.Page => decide ((x.n : Int) = p)) ∘ bare) = fun x => decide ((x.n : Int) = p) := by funext x; simp [bare_n]
 rw [h1, h2]
theorem commit_eq {s : S} {F : List Nat} {m : Pa.M} (h : Goes s F m) (r : Rt.Root) (free : Int) :
  (Pa.commit (asM s F) r free).2 = (Pa.commit m r free).2 ∧ Pa.rootOf (asM s F) r = Pa.rootOf m r := by
 have e1 : Pa.pages s.l = Pa.pages m.l := by rw [← pages_bare s.l, ← pages_bare m.l, h.l]
 have e2 : ∀ z, Pa.sizeL z s.l = Pa.sizeL z m.l := fun z => by rw [← sizeL_bare z s.l, ← sizeL_bare z m.l, h.l]
 have e3 : ∀ p, Pa.there s.l p = Pa.there m.l p := fun p => by rw [← there_bare s.l, ← there_bare m.l, h.l]
 have e4 : Pa.rootOf (asM s F) r = Pa.rootOf m r := by unfold Pa.rootOf asM; simp only; rw [e1, h.root]
 refine ⟨?_, e4⟩
 have h0 : ∀ (mm : Pa.M), Pa.commit mm r free = if Pa.there mm.l r.page = false ∨ ¬ Rt.May (Pa.rootOf mm r) then (mm, 2) else if free < (Pa.sizeL mm.size mm.l : Int) - mm.size then (mm, 9) else (⟨Pa.rootOf mm r, (Pa.keep mm.l).map Pa.used, Pa.sizeL mm.size mm.l⟩, 0) := fun _ => rfl
 rw [h0, h0]
 by_cases h1 : Pa.there m.l r.page = false ∨ ¬ Rt.May (Pa.rootOf m r)
 ·rw [if_pos h1, if_pos (by show Pa.there s.l r.page = false ∨ _; rw [e3, e4]; exact h1)]
 ·rw [if_neg h1, if_neg (by show ¬ (Pa.there s.l r.page = false ∨ _); rw [e3, e4]; exact h1)]
  by_cases h2 : free < (Pa.sizeL m.size m.l : Int) - m.size
  ·rw [if_pos h2, if_pos (by show free < (Pa.sizeL F.length s.l : Int) - (F.length : Int); rw [e2, ← h.size]; exact h2)]
  ·rw [if_neg h2, if_neg (by show ¬ free < (Pa.sizeL F.length s.l : Int) - (F.length : Int); rw [e2, ← h.size]; exact h2)]
theorem rising_filter {l : List Pa.Page} (h : Pa.Rising l) (p : Pa.Page → Bool) : Pa.Rising (l.filter p) := List.Pairwise.filter p h
theorem rising_map {l : List Pa.Page} {g : Pa.Page → Pa.Page} (h : Pa.Rising l) (hg : ∀ x, (g x).n = x.n) : Pa.Rising (l.map g) := by
 unfold Pa.Rising at h ⊢
 rw [List.pairwise_map]
 exact h.imp (fun h => by rw [hg, hg]; exact h)
theorem pages_more {l : List Pa.Page} (hr : Pa.Rising l) (h2 : ∀ x ∈ l, 2 ≤ x.n) : ∀ x ∈ l, x.state ≠ 3 → (x.n : Int) < Pa.pages l := by
 have gen : ∀ (l : List Pa.Page) (p : Int), Pa.Rising l → (∀ x ∈ l, p ≤ (x.n : Int) + 1) → p ≤ l.foldl (fun p x => if x.state = 3 then p else (x.n : Int) + 1) p ∧ ∀ x ∈ l, x.state ≠ 3 → (x.n : Int) < l.foldl (fun p x => if x.state = 3 then p else (x.n : Int) + 1) p := by
  intro l
  induction l with
  | nil => intro p _ _; exact ⟨Int.le_refl _, fun x hx => by cases hx⟩
  | cons y l ih =>
   intro p hr hp
   rw [List.foldl_cons]
   have hr' := List.pairwise_cons.1 hr
   have hy := hp y (by simp)
   have hq : ∀ x ∈ l, (if y.state = 3 then p else (y.n : Int) + 1) ≤ (x.n : Int) + 1 := fun x hx => by
    split
    ·exact hp x (by simp [hx])
    ·have := hr'.1 x hx; omega
   obtain ⟨h1, h2⟩ := ih _ hr'.2 hq
   refine ⟨?_, fun x hx hs => ?_⟩
   ·refine Int.le_trans ?_ h1
    split <;> omega
   ·rcases List.mem_cons.1 hx with rfl | hx
    ·rw [if_neg hs] at h1 ⊢
     omega
    ·exact h2 x hx hs
 exact (gen l 2 hr (fun x hx => by have := h2 x hx; omega)).2
end Go.Proofs.YtiafeniflkikeaaGreat.Pp
namespace Go.Proofs.YtiafeniflkikeaaGreat.Pp
theorem gap_spec {l : List Pa.Page} : ∀ {c : Nat}, Pa.Rising l → (∀ x ∈ l, c ≤ x.n) → (∀ x ∈ l.take (Pa.gap l c), x.n < c + Pa.gap l c) ∧ ∀ x ∈ l.drop (Pa.gap l c), c + Pa.gap l c < x.n := by
 induction l with
 | nil => intro c _ _; simp [Pa.gap]
 | cons y l ih =>
  intro c hr hc
  have hr' := List.pairwise_cons.1 hr
  have hy := hc y (by simp)
  unfold Pa.gap
  by_cases h : y.n = c
  ·rw [if_pos h]
   obtain ⟨h1, h2⟩ := ih (c := c + 1) hr'.2 (fun x hx => by have := hr'.1 x hx; omega)
   refine ⟨fun x hx => ?_, fun x hx => ?_⟩
   ·rw [List.take_succ_cons] at hx
    rcases List.mem_cons.1 hx with rfl | hx
    ·omega
    ·have := h1 x hx; omega
   ·rw [List.drop_succ_cons] at hx
    have := h2 x hx; omega
  ·rw [if_neg h]
   refine ⟨fun x hx => by simp at hx, fun x hx => ?_⟩
   rw [List.drop_zero] at hx
   rcases List.mem_cons.1 hx with rfl | hx
   ·omega
   ·have := hr'.1 x hx; omega
theorem rising_add {l : List Pa.Page} (hr : Pa.Rising l) (h2 : ∀ x ∈ l, 2 ≤ x.n) (kd : Nat) (b : List Nat) : Pa.Rising (Pa.addL l kd b) := by
 obtain ⟨h3, h4⟩ := gap_spec hr h2
 unfold Pa.addL Pa.Rising
 rw [List.pairwise_append]
 refine ⟨List.Pairwise.sublist (List.take_sublist _ _) hr, List.pairwise_cons.2 ⟨fun x hx => h4 x hx, List.Pairwise.sublist (List.drop_sublist _ _) hr⟩, fun x hx y hy => ?_⟩
 have := h3 x hx
 rcases List.mem_cons.1 hy with rfl | hy
 ·exact this
 ·have := h4 y hy; omega
theorem add_bare {l l' : List Pa.Page} (h : l.map bare = l'.map bare) (kd : Nat) (b : List Nat) : (Pa.addL l kd b).map bare = (Pa.addL l' kd b).map bare := by
 unfold Pa.addL
 rw [gap_eq h, List.map_append, List.map_append, List.map_cons, List.map_cons, List.map_take, List.map_take, List.map_drop, List.map_drop, h]
theorem mem_add {l : List Pa.Page} {kd : Nat} {b : List Nat} {x : Pa.Page} (h : x ∈ Pa.addL l kd b) : x ∈ l ∨ x = ⟨2 + Pa.gap l 2, 2, kd, b⟩ := by
 unfold Pa.addL at h
 rcases List.mem_append.1 h with h | h
 ·exact .inl (List.mem_of_mem_take h)
 ·rcases List.mem_cons.1 h with h | h
  ·exact .inr h
  ·exact .inl (List.mem_of_mem_drop h)
theorem Goes.add {s : S} {F : List Nat} {m : Pa.M} (h : Goes s F m) {kd : Nat} {b : List Nat} (hk : kd < 256) (hb : ∀ y ∈ b, y < 256) :
  (Pa.add (asM s F) kd b).2 = (Pa.add m kd b).2 ∧ Goes { s with l := (Pa.add (asM s F) kd b).1.l } F (Pa.add m kd b).1 := by
 have hg : Pa.gap s.l 2 = Pa.gap m.l 2 := gap_eq h.l 2
 have e0 : ∀ mm : Pa.M, Pa.add mm kd b = if 496 < b.length then (mm, 0, 3) else if 65536 ≤ 2 + Pa.gap mm.l 2 then (mm, 0, 3) else ({ mm with l := Pa.addL mm.l kd b }, 2 + Pa.gap mm.l 2, 0) := fun _ => rfl
 by_cases h1 : 496 < b.length
 ·rw [e0, e0, if_pos h1, if_pos h1]
  exact ⟨rfl, h⟩
 ·by_cases h2 : 65536 ≤ 2 + Pa.gap m.l 2
  ·rw [e0, e0, if_neg h1, if_neg h1, if_pos h2, if_pos (by show 65536 ≤ 2 + Pa.gap s.l 2; omega)]
   exact ⟨rfl, h⟩
  ·rw [e0, e0, if_neg h1, if_neg h1, if_neg h2, if_neg (by show ¬ 65536 ≤ 2 + Pa.gap s.l 2; omega)]
   refine ⟨by show (2 + Pa.gap s.l 2, 0) = (2 + Pa.gap m.l 2, 0); rw [hg], h.root, add_bare h.l kd b, ⟨h.ok.root, rising_add h.ok.rise (fun x hx => (h.ok.from2 x hx).1) kd b, fun x hx => ?_⟩, h.size, fun x hx hs => ?_, fun x hx hs => ?_, h.told⟩
   ·rcases mem_add hx with hx | rfl
    ·exact h.ok.from2 x hx
    ·exact ⟨by show 2 ≤ 2 + _; omega, by show 2 + Pa.gap m.l 2 < 65536; omega, .inr (.inl rfl), hk, by show b.length ≤ 496; omega, hb⟩
   ·rcases mem_add hx with hx | rfl
    ·exact h.page x hx hs
    ·exact absurd rfl hs
   ·rcases mem_add hx with hx | rfl
    ·exact h.less x hx hs
    ·exact absurd rfl hs
theorem drop_bare {l l' : List Pa.Page} (h : l.map bare = l'.map bare) {i : Nat} {x y : Pa.Page} (hx : l[i]? = some x) (hy : l'[i]? = some y) : (Pa.dropL l i x).map bare = (Pa.dropL l' i y).map bare := by
 have hb : bare x = bare y := by have := at_eq h i; rw [hx, hy] at this; exact Option.some.inj this
 have hs : x.state = y.state := by rw [← bare_state x, ← bare_state y, hb]
 have hn : x.n = y.n := by rw [← bare_n x, ← bare_n y, hb]
 unfold Pa.dropL
 rw [hs]
 split
 ·rw [List.map_append, List.map_append, List.map_take, List.map_take, List.map_drop, List.map_drop, h]
 ·rw [List.map_set, List.map_set, h, bare_held (x := { x with state := 3 }) (by simp), bare_held (x := { y with state := 3 }) (by simp)]
  simp only [hn]
theorem mem_drop {l : List Pa.Page} {i : Nat} {x y : Pa.Page} (_hx : l[i]? = some x) (h : y ∈ Pa.dropL l i x) : y ∈ l ∨ (x.state ≠ 2 ∧ y = { x with state := 3 }) := by
 unfold Pa.dropL at h
 split at h
 ·rcases List.mem_append.1 h with h | h
  ·exact .inl (List.mem_of_mem_take h)
  ·exact .inl (List.mem_of_mem_drop h)
 ·rcases List.mem_or_eq_of_mem_set h with h | h
  ·exact .inl h
  ·exact .inr ⟨by assumption, h⟩
theorem rising_drop {l : List Pa.Page} (hr : Pa.Rising l) {i : Nat} {x : Pa.Page} (hx : l[i]? = some x) : Pa.Rising (Pa.dropL l i x) := by
 unfold Pa.dropL
 split
 ·rw [← List.eraseIdx_eq_take_drop_succ]
  exact List.Pairwise.sublist (List.eraseIdx_sublist _ _) hr
 ·have e : ((l.set i { x with state := 3 }).map (·.n)) = l.map (·.n) := by
   rw [List.map_set]
   have hi := (List.getElem?_eq_some_iff.1 hx).1
   apply List.ext_getElem?
   intro j
   rw [List.getElem?_set]
   split
   ·subst_vars
    rw [List.getElem?_map, hx]
    simp [hi]
   ·rfl
  have h1 : (l.map (·.n)).Pairwise (· < ·) := List.pairwise_map.2 hr
  rw [← e] at h1
  exact List.pairwise_map.1 h1
theorem Goes.drop {s : S} {F : List Nat} {m : Pa.M} (h : Goes s F m) (n : Int) :
  (Pa.drop (asM s F) n).2 = (Pa.drop m n).2 ∧ Goes { s with l := (Pa.drop (asM s F) n).1.l } F (Pa.drop m n).1 := by
 have e0 : ∀ mm : Pa.M, Pa.drop mm n = match Pa.idx mm.l n with | none => (mm, 7) | some i => match mm.l[i]? with | none => (mm, 7) | some x => if x.state = 3 then (mm, 7) else ({ mm with l := Pa.dropL mm.l i x }, 0) := fun _ => rfl
 have hi : Pa.idx (asM s F).l n = Pa.idx m.l n := idx_eq h.l n
 cases hq : Pa.idx m.l n with
 | none =>
  rw [e0, e0, hi, hq]
  exact ⟨rfl, h⟩
 | some i =>
  obtain ⟨y, hy, hyn⟩ := Pa.idx_lt hq
  obtain ⟨x, hx, hxn⟩ := Pa.idx_lt (hi.trans hq)
  have hx' : s.l[i]? = some x := hx
  have hb : bare x = bare y := by have := at_eq h.l i; rw [hx', hy] at this; exact Option.some.inj this
  have hs : x.state = y.state := by rw [← bare_state x, ← bare_state y, hb]
  rw [e0, e0, hi, hq]
  simp only [hx, hy, hs]
  by_cases h3 : y.state = 3
  ·rw [if_pos h3, if_pos h3]
   exact ⟨rfl, h⟩
  ·rw [if_neg h3, if_neg h3]
   have hym := List.mem_of_getElem? hy
   refine ⟨rfl, h.root, drop_bare h.l hx' hy, ⟨h.ok.root, rising_drop h.ok.rise hy, fun z hz => ?_⟩, h.size, fun z hz hzs => ?_, fun z hz hzs => ?_, h.told⟩
   ·rcases mem_drop hy hz with hz | ⟨_, rfl⟩
    ·exact h.ok.from2 z hz
    ·have := h.ok.from2 y hym
     exact ⟨this.1, this.2.1, .inr (.inr rfl), this.2.2.2⟩
   ·rcases mem_drop hy hz with hz | ⟨h2, rfl⟩
    ·exact h.page z hz hzs
    ·exact h.page y hym h2
   ·rcases mem_drop hy hz with hz | ⟨h2, rfl⟩
    ·exact h.less z hz hzs
    ·exact h.less y hym h2
end Go.Proofs.YtiafeniflkikeaaGreat.Pp
namespace Go.Proofs.YtiafeniflkikeaaGreat.Pp
theorem sizeL_base (l : List Pa.Page) : ∀ s, s ≤ Pa.sizeL s l := by
 unfold Pa.sizeL
 induction l with
 | nil => intro s; exact Nat.le_refl _
 | cons x l ih =>
  intro s
  rw [List.foldl_cons]
  refine Nat.le_trans ?_ (ih _)
  split <;> omega
theorem sizeL_ge {l : List Pa.Page} : ∀ {s : Nat} {x : Pa.Page}, x ∈ l → x.state = 2 → (x.n + 1) * 512 ≤ Pa.sizeL s l := by
 induction l with
 | nil => intro s x hx; cases hx
 | cons y l ih =>
  intro s x hx hs
  have e : Pa.sizeL s (y :: l) = Pa.sizeL (if y.state = 2 then max s ((y.n + 1) * 512) else s) l := rfl
  rw [e]
  rcases List.mem_cons.1 hx with rfl | hx
  ·refine Nat.le_trans ?_ (sizeL_base l _)
   rw [if_pos hs]; omega
  ·exact ih hx hs
theorem rdE_ok {F : List Nat} {n k : Nat} {b : List Nat} (h : rdE F n = (k, b, 0)) : 512 * (n + 1) ≤ F.length ∧ Pg.getE n (pageOf F n) = (k, b, 0) := by
 unfold rdE at h
 split at h
 ·simp at h
 split at h
 ·simp at h
 ·exact ⟨by omega, h⟩
theorem rdE_of {F : List Nat} {n k : Nat} {b : List Nat} (h : 512 * (n + 1) ≤ F.length) (hg : Pg.getE n (pageOf F n) = (k, b, 0)) : rdE F n = (k, b, 0) := by
 unfold rdE; rw [if_neg (by omega), if_neg (by omega), hg]
theorem getE_page {n k : Nat} {b : List Nat} (hn : n < 65536) (hb : b.length ≤ 496) : Pg.getE (n : Nat) (Pg.page n k b) = (k, b, 0) := by
 have h := Pg.putE_ok (n := (n : Int)) (k := k) (b := b) (by omega) (by omega)
 rw [Int.toNat_natCast] at h
 exact (Pg.getE_put h).1
end Go.Proofs.YtiafeniflkikeaaGreat.Pp
namespace Go.Proofs.YtiafeniflkikeaaGreat.Pp
theorem commit_ok {m : Pa.M} {r : Rt.Root} {free : Int} (h : (Pa.commit m r free).2 = 0) :
  Rt.May (Pa.rootOf m r) ∧ (Pa.commit m r free).1 = ⟨Pa.rootOf m r, (Pa.keep m.l).map Pa.used, Pa.sizeL m.size m.l⟩ := by
 have e0 : Pa.commit m r free = if Pa.there m.l r.page = false ∨ ¬ Rt.May (Pa.rootOf m r) then (m, 2) else if free < (Pa.sizeL m.size m.l : Int) - m.size then (m, 9) else (⟨Pa.rootOf m r, (Pa.keep m.l).map Pa.used, Pa.sizeL m.size m.l⟩, 0) := rfl
 by_cases h1 : Pa.there m.l r.page = false ∨ ¬ Rt.May (Pa.rootOf m r)
 ·rw [e0, if_pos h1] at h; simp at h
 ·by_cases h2 : free < (Pa.sizeL m.size m.l : Int) - m.size
  ·rw [e0, if_neg h1, if_pos h2] at h; simp at h
  ·rw [e0, if_neg h1, if_neg h2]
   refine ⟨?_, rfl⟩
   by_cases hm : Rt.May (Pa.rootOf m r)
   ·exact hm
   ·exact absurd (.inr hm) h1
theorem commit_no {m : Pa.M} {r : Rt.Root} {free : Int} (h : (Pa.commit m r free).2 ≠ 0) : (Pa.commit m r free).1 = m := by
 have e0 : Pa.commit m r free = if Pa.there m.l r.page = false ∨ ¬ Rt.May (Pa.rootOf m r) then (m, 2) else if free < (Pa.sizeL m.size m.l : Int) - m.size then (m, 9) else (⟨Pa.rootOf m r, (Pa.keep m.l).map Pa.used, Pa.sizeL m.size m.l⟩, 0) := rfl
 by_cases h1 : Pa.there m.l r.page = false ∨ ¬ Rt.May (Pa.rootOf m r)
 ·rw [e0, if_pos h1]
 ·by_cases h2 : free < (Pa.sizeL m.size m.l : Int) - m.size
  ·rw [e0, if_neg h1, if_pos h2]
  ·rw [e0, if_neg h1, if_neg h2] at h; simp at h
theorem mem_bare {l l' : List Pa.Page} (h : l.map bare = l'.map bare) {x : Pa.Page} (hx : x ∈ l') : ∃ y ∈ l, bare y = bare x := by
 have : bare x ∈ l.map bare := by rw [h]; exact List.mem_map.2 ⟨x, hx, rfl⟩
 obtain ⟨y, hy, e⟩ := List.mem_map.1 this
 exact ⟨y, hy, e⟩
theorem Goes.commit {s : S} {F F' : List Nat} {m : Pa.M} (h : Goes s F m) {r : Rt.Root} {free : Int} (hc : (Pa.commit m r free).2 = 0) (hn : New s F F' (Pa.rootOf m r)) :
  Goes { s with root := Pa.rootOf m r, l := (Pa.keep s.l).map Pa.used } F' (Pa.commit m r free).1 := by
 obtain ⟨hm, he⟩ := commit_ok hc
 have hsl : ∀ z, Pa.sizeL z s.l = Pa.sizeL z m.l := fun z => by rw [← sizeL_bare z s.l, ← sizeL_bare z m.l, h.l]
 have hlen : F'.length = Pa.sizeL m.size m.l := by rw [hn.len, hsl, h.size]
 have hmem : ∀ x ∈ (Pa.keep m.l).map Pa.used, ∃ y ∈ m.l, y.state ≠ 3 ∧ x = Pa.used y := fun x hx => by
  obtain ⟨y, hy, rfl⟩ := List.mem_map.1 hx
  have h1 := List.mem_filter.1 hy
  exact ⟨y, h1.1, by simpa using h1.2, rfl⟩
 rw [he]
 refine ⟨rfl, kept_eq h.l, ⟨hm, rising_map (rising_filter h.ok.rise _) (fun _ => rfl), fun x hx => ?_⟩, hlen.symm, fun x hx _ => ?_, fun x hx _ => ?_, hn.root⟩
 ·obtain ⟨y, hy, _, rfl⟩ := hmem x hx
  have := h.ok.from2 y hy
  exact ⟨this.1, this.2.1, .inl rfl, this.2.2.2⟩
 ·obtain ⟨y, hy, h3, rfl⟩ := hmem x hx
  have hy2 := h.ok.from2 y hy
  show rdE F' y.n = (y.kind, y.body, 0)
  by_cases h2 : y.state = 2
  ·obtain ⟨z, hz, e⟩ := mem_bare h.l hy
   have hzs : z.state = 2 := by rw [← bare_state z, e, bare_state]; exact h2
   rw [bare_pend hzs, bare_pend h2] at e
   subst e
   refine rdE_of ?_ ?_
   ·rw [hlen]; have := sizeL_ge (s := m.size) hy h2; omega
   ·rw [hn.pend _ hz h2]; exact getE_page hy2.2.1 hy2.2.2.2.2.1
  ·obtain ⟨h4, h5⟩ := rdE_ok (h.page y hy h2)
   obtain ⟨z, hz, e⟩ := mem_bare h.l hy
   have hzs : z.state ≠ 2 := by rw [← bare_state z, e, bare_state]; exact h2
   have hzn : z.n = y.n := by rw [← bare_n z, e, bare_n]
   have hp := hn.used z hz hzs (by rw [hzn]; exact hy2.2.1) (by rw [hzn]; exact h4)
   rw [hzn] at hp
   refine rdE_of ?_ (by rw [hp]; exact h5)
   rw [hlen]; have := sizeL_base m.l m.size; have := h.size; omega
 ·obtain ⟨y, hy, h3, rfl⟩ := hmem x hx
  exact pages_more h.ok.rise (fun z hz => (h.ok.from2 z hz).1) y hy h3
theorem find_bare {s : S} {F : List Nat} {m : Pa.M} (h : Goes s F m) (n : Int) : readE s F n = Pa.read m.l n := by
 unfold readE Pa.read Pa.find
 rw [idx_eq h.l n]
 cases hq : Pa.idx m.l n with
 | none => rfl
 | some i =>
  obtain ⟨y, hy, hyn⟩ := Pa.idx_lt hq
  have hl := at_eq h.l i
  rw [hy] at hl
  cases hx : s.l[i]? with
  | none => rw [hx] at hl; cases hl
  | some x =>
   rw [hx] at hl
   have hb : bare x = bare y := Option.some.inj hl
   have hs : x.state = y.state := by rw [← bare_state x, ← bare_state y, hb]
   have hn : x.n = y.n := by rw [← bare_n x, ← bare_n y, hb]
   simp only [Option.bind_some, hx, hy]
   by_cases h2 : y.state = 2
   ·rw [bare_pend (by omega), bare_pend h2] at hb
    rw [if_pos (by omega), hb]
   ·rw [if_neg (by omega), hn]
    exact h.page y (List.mem_of_getElem? hy) h2
end Go.Proofs.YtiafeniflkikeaaGreat.Pp
