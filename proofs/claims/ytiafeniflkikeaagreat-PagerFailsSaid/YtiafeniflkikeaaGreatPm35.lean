/- Parts of the proof. -/
import Derived.Test.YtiafeniflkikeaaGreatPm34
namespace Go.Proofs.YtiafeniflkikeaaGreat
open Go.RowKit
set_option linter.unusedVariables false
theorem Pp.commit_of {s : Pp.S} {F : List Nat} {r : Rt.Root} (hnd : r.page = 0 ∨ Pp.need s.l r.page = true) (hm : Rt.May (Pp.rootOf s r)) (free : Int) :
  (Pa.commit (Pp.asM s F) r free).2 = if free < (Pa.sizeL F.length s.l : Int) - (F.length : Int) then 9 else 0 := by
 unfold Pa.commit
 rw [if_neg]
 ·split
  ·rename_i h; exact (if_pos h).symm
  ·rename_i h; exact (if_neg h).symm
 ·rintro (h | h)
  ·have h : Pa.there s.l r.page = false := h
   rw [Pp.there_need] at h
   rcases hnd with h1 | h1
   ·rw [decide_eq_true h1] at h; cases h
   ·rw [h1, Bool.or_true] at h; cases h
  ·exact h hm
theorem Pp.rootOf_seq {s : Pp.S} (h : Rt.May s.root) (r : Rt.Root) : (Pp.rootOf s r).seq = s.root.seq + 1 := by
 show (s.root.seq + 1) % 18446744073709551616 = _
 have := h.2.1
 omega
end Go.Proofs.YtiafeniflkikeaaGreat
namespace Go.Proofs.YtiafeniflkikeaaGreat
open Go.RowKit
set_option linter.unusedVariables false
namespace Sf
theorem blown_two (t : St) : (∃ f, blown t = (0, { t with acts := t.acts + 1, fuse := f }) ∧ (t.fuse = 0 → f = 0)) ∨ (t.fuse ≠ 0 ∧ blown t = (13, { t with acts := t.acts + 1, fuse := 0, dead := true })) := by
 unfold blown
 by_cases h : t.fuse = 0
 ·rw [if_pos h]
  exact .inl ⟨t.fuse, rfl, fun h => h⟩
 ·rw [if_neg h]
  by_cases h1 : t.fuse = 1
  ·rw [if_pos h1]
   exact .inr ⟨h, rfl⟩
  ·rw [if_neg h1]
   exact .inl ⟨t.fuse - 1, rfl, fun h2 => absurd h2 h⟩
def arm_ (t : St) (f : Nat) (d : Bool) : St := { t with fuse := f, dead := d }
theorem add_two (t : St) (k : Nat) (a : Act) : (∃ f, add t k a = (0, arm_ (put t k a) f t.dead) ∧ (t.fuse = 0 → f = 0)) ∨ (t.fuse ≠ 0 ∧ add t k a = (13, arm_ (put t k a) 0 true)) := by
 rcases blown_two { t with files := t.files.set k ⟨(fileAt t k).sure, (fileAt t k).row ++ [a]⟩ } with ⟨f, h1, h2⟩ | ⟨h1, h2⟩
 ·exact .inl ⟨f, h1, h2⟩
 ·exact .inr ⟨h1, h2⟩
theorem sync_two {t : St} {k : Nat} {s : ByteArray} (hg : get t s = (k, 0)) : (∃ f, sync t s = (0, arm_ (syn t k) f t.dead) ∧ (t.fuse = 0 → f = 0)) ∨ (t.fuse ≠ 0 ∧ sync t s = (13, { t with acts := t.acts + 1, fuse := 0, dead := true })) := by
 unfold sync
 rw [hg, if_neg (by simp)]
 rcases blown_two t with ⟨f, h1, h2⟩ | ⟨h1, h2⟩
 ·rw [h1, if_neg (by simp)]
  exact .inl ⟨f, rfl, h2⟩
 ·rw [h2, if_pos (by simp)]
  exact .inr ⟨h1, rfl⟩
end Sf
end Go.Proofs.YtiafeniflkikeaaGreat
namespace Go.Proofs.YtiafeniflkikeaaGreat
open Go.RowKit
set_option linter.unusedVariables false
namespace Sf
structure OnA (s : ByteArray) (k : Nat) (t u : St) : Prop where
 but : Pp.But k t u
 get : get u s = (k, 0)
 fz : t.fuse = 0 → u.fuse = 0
 has : k < u.files.length
 nums : (u.seen.map (·.2)).Nodup
structure Died (k : Nat) (t v : St) (f : File) : Prop where
 fuse : t.fuse ≠ 0
 but : Pp.But k t v
 dead : v.dead = true
 file : fileAt v k = f
structure Went (s : ByteArray) (k : Nat) (t u v : St) (f : File) : Prop where
 on : OnA s k t v
 file : fileAt v k = f
 acts : v.acts = u.acts + 1
 used : used v + len u k = used u + len v k
section
variable {t u : St} {k : Nat} {s : ByteArray}
theorem OnA.refl (hg : Sf.get t s = (k, 0)) (hk : k < t.files.length) (hn : (t.seen.map (·.2)).Nodup) : OnA s k t t := ⟨⟨rfl, rfl, fun _ _ => rfl, rfl, rfl, rfl⟩, hg, fun h => h, hk, hn⟩
theorem OnA.set {v : St} (h : OnA s k t u) (f : File) (h1 : v.room = u.room) (h2 : v.files = u.files.set k f) (h3 : v.sure = u.sure) (h4 : v.row = u.row) (h5 : v.seen = u.seen) : Pp.But k t v ∧ fileAt v k = f ∧ ∀ j, j ≠ k → fileAt v j = fileAt u j := by
 have hf : ∀ j, fileAt v j = if j = k then f else fileAt u j := fun j => by
  have := fileAt_set h.has f 0 j
  unfold fileAt at this ⊢
  rw [h2]; exact this
 exact ⟨⟨h1.trans h.but.room, by rw [h2, List.length_set]; exact h.but.len, fun j hj => by rw [hf j, if_neg hj]; exact h.but.file j hj, h3.trans h.but.sure, h4.trans h.but.row, h5.trans h.but.seen⟩, by rw [hf k, if_pos rfl], fun j hj => by rw [hf j, if_neg hj]⟩
theorem OnA.add (h : OnA s k t u) (a : Act) : (∃ v, add u k a = (0, v) ∧ Went s k t u v ⟨(fileAt u k).sure, (fileAt u k).row ++ [a]⟩) ∨ (∃ v, Sf.add u k a = (13, v) ∧ v.acts = u.acts + 1 ∧ Died k t v ⟨(fileAt u k).sure, (fileAt u k).row ++ [a]⟩) := by
 have hgf := get_find h.get
 rcases add_two u k a with ⟨f, h1, h2⟩ | ⟨h1, h2⟩
 ·obtain ⟨q1, q2, q3⟩ := h.set (v := arm_ (put u k a) f u.dead) ⟨(fileAt u k).sure, (fileAt u k).row ++ [a]⟩ rfl rfl rfl rfl rfl
  refine .inl ⟨_, h1, ⟨q1, get_of hgf.1 hgf.2, fun h0 => h2 (h.fz h0), ?_, h.nums⟩, q2, rfl, ?_⟩
  ·show k < (u.files.set k _).length
   rw [List.length_set]; exact h.has
  ·exact used_set (u := arm_ (put u k a) f u.dead) h.get h.nums rfl hgf.1 (fun j hj => by unfold len; rw [q3 j hj])
 ·obtain ⟨q1, q2, q3⟩ := h.set (v := arm_ (put u k a) 0 true) ⟨(fileAt u k).sure, (fileAt u k).row ++ [a]⟩ rfl rfl rfl rfl rfl
  exact .inr ⟨_, h2, rfl, fun h0 => h1 (h.fz h0), q1, rfl, q2⟩
theorem OnA.sync (h : OnA s k t u) : (∃ v, sync u s = (0, v) ∧ Went s k t u v ⟨now (fileAt u k), []⟩) ∨ (∃ v, Sf.sync u s = (13, v) ∧ v.acts = u.acts + 1 ∧ Died k t v (fileAt u k)) := by
 have hgf := get_find h.get
 rcases sync_two h.get with ⟨f, h1, h2⟩ | ⟨h1, h2⟩
 ·obtain ⟨q1, q2, q3⟩ := h.set (v := arm_ (syn u k) f u.dead) ⟨now (fileAt u k), []⟩ rfl rfl rfl rfl rfl
  refine .inl ⟨_, h1, ⟨q1, get_of hgf.1 hgf.2, fun h0 => h2 (h.fz h0), ?_, h.nums⟩, q2, rfl, ?_⟩
  ·show k < (u.files.set k _).length
   rw [List.length_set]; exact h.has
  ·exact used_set (u := arm_ (syn u k) f u.dead) h.get h.nums rfl hgf.1 (fun j hj => by unfold len; rw [q3 j hj])
 ·exact .inr ⟨_, h2, rfl, fun h0 => h1 (h.fz h0), ⟨h.but.room, h.but.len, h.but.file, h.but.sure, h.but.row, h.but.seen⟩, rfl, rfl⟩
theorem OnA.append (h : OnA s k t u) (b : List Nat) : append u s b = if 0 < b.length ∧ u.room < used u + b.length then (9, u) else Sf.add u k ⟨false, len u k, b⟩ := by
 unfold Sf.append
 rw [h.get, if_neg (by simp)]
theorem OnA.write (h : OnA s k t u) (a : Nat) (ha : a ≤ len u k) (b : List Nat) : write u s (a : Nat) b = if len u k < a + b.length ∧ u.room < used u + (a + b.length - len u k) then (9, u) else Sf.add u k ⟨false, a, b⟩ := by
 unfold Sf.write
 rw [h.get, if_neg (by simp)]
 simp only [Int.toNat_natCast]
 rw [if_neg (by omega)]
theorem OnA.cut (h : OnA s k t u) (a : Nat) (ha : a ≤ len u k) : cut u s (a : Nat) = Sf.add u k ⟨true, a, []⟩ := by
 unfold Sf.cut
 rw [h.get, if_neg (by simp)]
 simp only [Int.toNat_natCast]
 rw [if_neg (by omega)]
end
end Sf
end Go.Proofs.YtiafeniflkikeaaGreat
namespace Go.Proofs.YtiafeniflkikeaaGreat
open Go.RowKit
set_option linter.unusedVariables false
namespace Pp
open Sf (done torn)
def Free (F : List Nat) (m : List Pa.Page) (a : Sf.Act) : Prop :=
 (a.cut = true ∧ F.length ≤ a.at_) ∨ (a.cut = false ∧ ∀ i, a.at_ ≤ i → i < a.at_ + a.b.length → i < F.length → ∃ x ∈ m, 512 * x.n ≤ i ∧ i < 512 * (x.n + 1))
theorem Off.done {F G : List Nat} {m : List Pa.Page} {a : Sf.Act} (h : Off F G m) (ha : Free F m a) (hl : a.at_ ≤ G.length) : Off F (done G a) m := by
 unfold Sf.done
 have hg := h.1
 rcases ha with ⟨hc, ha⟩ | ⟨hc, ha⟩
 ·rw [if_pos hc]
  refine ⟨by rw [List.length_take]; omega, fun i hi hq => ?_⟩
  rw [List.getElem?_take_of_lt (by omega)]
  exact h.2 i hi hq
 ·rw [if_neg (by rw [hc]; simp)]
  refine ⟨by rw [List.length_append, List.length_append, List.length_take, List.length_drop]; omega, fun i hi hq => ?_⟩
  rw [List.append_assoc]
  by_cases h1 : i < a.at_
  ·rw [List.getElem?_append_left (by rw [List.length_take]; omega), List.getElem?_take_of_lt h1]
   exact h.2 i hi hq
  ·by_cases h2 : i < a.at_ + a.b.length
   ·obtain ⟨x, hx, h3, h4⟩ := ha i (by omega) h2 hi
    have := hq x hx
    omega
   ·have e : min a.at_ G.length = a.at_ := by omega
    rw [List.getElem?_append_right (by rw [List.length_take]; omega), List.length_take, e, List.getElem?_append_right (by omega), List.getElem?_drop]
    have e2 : a.at_ + a.b.length + (i - a.at_ - a.b.length) = i := by omega
    rw [e2]
    exact h.2 i hi hq
def Frees (F : List Nat) (m : List Pa.Page) : List Nat → List Sf.Act → Prop
 | _, [] => True
 | G, a :: l => Free F m a ∧ a.at_ ≤ G.length ∧ Frees F m (done G a) l
theorem Frees.snoc {F : List Nat} {m : List Pa.Page} {a : Sf.Act} : ∀ {l : List Sf.Act} {G : List Nat}, Frees F m G l → Free F m a → a.at_ ≤ (l.foldl done G).length → Frees F m G (l ++ [a])
 | [], G, _, h2, h3 => ⟨h2, h3, trivial⟩
 | b :: l, G, h1, h2, h3 => ⟨h1.1, h1.2.1, Frees.snoc h1.2.2 h2 h3⟩
theorem Frees.off {F : List Nat} {m : List Pa.Page} : ∀ {l : List Sf.Act} {G : List Nat}, Frees F m G l → Off F G m → ∀ j, Off F ((l.take j).foldl done G) m ∧ ∀ a, l[j]? = some a → Free F m a ∧ a.at_ ≤ ((l.take j).foldl done G).length
 | [], G, _, h2, j => ⟨by simpa using h2, fun a h => by simp at h⟩
 | b :: l, G, h1, h2, 0 => ⟨h2, fun a h => by simp at h; subst h; exact ⟨h1.1, h1.2.1⟩⟩
 | b :: l, G, h1, h2, j + 1 => by
  have := Frees.off h1.2.2 (h2.done h1.1 h1.2.1) j
  simpa using this
theorem Off.torn {F G : List Nat} {m : List Pa.Page} {a : Sf.Act} (h : Off F G m) (ha : Free F m a) (hc : a.cut = false) (hl : a.at_ ≤ G.length) (n : Nat) : Off F (torn G a n) m := by
 unfold Sf.torn
 simp only
 generalize (if a.at_ + n < G.length then (a.at_ + n) / 512 * 512 else a.at_ + n) = e
 by_cases he : e ≤ a.at_
 ·rw [if_pos he]; exact h
 ·rw [if_neg he]
  refine h.done (a := ⟨false, a.at_, a.b.take (e - a.at_)⟩) (.inr ⟨rfl, fun i h1 h2 h3 => ?_⟩) hl
  rcases ha with ⟨h4, _⟩ | ⟨_, ha⟩
  ·rw [hc] at h4; cases h4
  ·refine ha i h1 ?_ h3
   simp only [List.length_take] at h2
   omega
theorem vers_free {F : List Nat} {m : List Pa.Page} {f : Sf.File} {l : List Sf.Act} (hF : Sf.now f = F) (hrow : f.row.length < 18446744073709551616) (hl : Frees F m F l) {x : List Nat} (h : Vers ⟨f.sure, f.row ++ l⟩ x) : Vers f x ∨ Off F x m := by
 obtain ⟨q, rfl⟩ := h
 have hb : ∀ j, f.row.length ≤ j → Sf.bytes ⟨f.sure, f.row ++ l⟩ j = (l.take (j - f.row.length)).foldl done F := fun j hj => by
  unfold Sf.bytes
  rw [List.take_append, List.take_of_length_le hj, List.foldl_append]
  unfold Sf.now at hF
  rw [hF]
 have hs : ∀ j, j ≤ f.row.length → Sf.bytes ⟨f.sure, f.row ++ l⟩ j = Sf.bytes f j := fun j hj => by
  unfold Sf.bytes
  rw [List.take_append_of_le_length hj]
 have hoff := Frees.off hl (Off.refl F m)
 unfold Sf.kept1
 obtain ⟨j, hj⟩ : ∃ j, Sf.took q ((⟨f.sure, f.row ++ l⟩ : Sf.File).row.length + 1) = j := ⟨_, rfl⟩
 rw [hj]
 by_cases h1 : j < f.row.length
 ·left
  have hleft : Sf.left (j : Int) (f.row.length + 1) = j := by
   unfold Sf.left
   rw [Int.emod_eq_of_lt (by omega) (by omega), Int.toNat_natCast, Nat.mod_eq_of_lt (by omega)]
  have e1 : Sf.took ((j : Int) :: q.drop 1) (f.row.length + 1) = j := hleft
  have hr : (⟨f.sure, f.row ++ l⟩ : Sf.File).row[j]? = f.row[j]? := List.getElem?_append_left h1
  refine ⟨(j : Int) :: q.drop 1, ?_⟩
  unfold Sf.kept1
  rw [e1, hr, hs j (by omega), List.getElem?_eq_getElem h1]
  simp only [List.drop_succ_cons, List.drop_zero]
  split <;> rfl
 ·right
  have h2 := hoff (j - f.row.length)
  rw [← hb j (by omega)] at h2
  have hr : (⟨f.sure, f.row ++ l⟩ : Sf.File).row[j]? = l[j - f.row.length]? := List.getElem?_append_right (by omega)
  rw [hr]
  cases hq : l[j - f.row.length]? with
  | none => exact h2.1
  | some a =>
   obtain ⟨h3, h4⟩ := h2.2 a hq
   simp only
   by_cases hc : a.cut = true
   ·rw [if_pos hc]; exact h2.1
   ·rw [if_neg hc]
    exact h2.1.torn h3 (by simpa using hc) h4 _
end Pp
end Go.Proofs.YtiafeniflkikeaaGreat
