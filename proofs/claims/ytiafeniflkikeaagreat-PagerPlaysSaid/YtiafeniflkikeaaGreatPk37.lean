/- Parts of the proof. -/
import Derived.Test.YtiafeniflkikeaaGreatPk36
namespace Go.Proofs.YtiafeniflkikeaaGreat
open Go.RowKit
set_option linter.unusedVariables false
namespace Sf
theorem blown_two (t : St) : (∃ f, blown t = (0, { t with acts := t.acts + 1, fuse := f }) ∧ (t.fuse = 0 → f = 0)) ∨ (t.fuse ≠ 0 ∧ blown t = (13, { t with acts := t.acts + 1, fuse := 0, dead := true })) := by
 unfold blown
 by_cases h : t.fuse = 0
 ·rw [if_pos h]
  exact .inl ⟨t.fuse, rfl, fun h => h⟩
 ·rw [if_neg h]
  by_cases h1 : t.fuse = 1
  ·rw [if_pos h1]
   exact .inr ⟨h, rfl⟩
  ·rw [if_neg h1]
   exact .inl ⟨t.fuse - 1, rfl, fun h2 => absurd h2 h⟩
def arm_ (t : St) (f : Nat) (d : Bool) : St := { t with fuse := f, dead := d }
theorem add_two (t : St) (k : Nat) (a : Act) : (∃ f, add t k a = (0, arm_ (put t k a) f t.dead) ∧ (t.fuse = 0 → f = 0)) ∨ (t.fuse ≠ 0 ∧ add t k a = (13, arm_ (put t k a) 0 true)) := by
 rcases blown_two { t with files := t.files.set k ⟨(fileAt t k).sure, (fileAt t k).row ++ [a]⟩ } with ⟨f, h1, h2⟩ | ⟨h1, h2⟩
 ·exact .inl ⟨f, h1, h2⟩
 ·exact .inr ⟨h1, h2⟩
theorem sync_two {t : St} {k : Nat} {s : ByteArray} (hg : get t s = (k, 0)) : (∃ f, sync t s = (0, arm_ (syn t k) f t.dead) ∧ (t.fuse = 0 → f = 0)) ∨ (t.fuse ≠ 0 ∧ sync t s = (13, { t with acts := t.acts + 1, fuse := 0, dead := true })) := by
 unfold sync
 rw [hg, if_neg (by simp)]
 rcases blown_two t with ⟨f, h1, h2⟩ | ⟨h1, h2⟩
 ·rw [h1, if_neg (by simp)]
  exact .inl ⟨f, rfl, h2⟩
 ·rw [h2, if_pos (by simp)]
  exact .inr ⟨h1, rfl⟩
end Sf
end Go.Proofs.YtiafeniflkikeaaGreat
namespace Go.Proofs.YtiafeniflkikeaaGreat
open Go.RowKit
set_option linter.unusedVariables false
namespace Sf
structure OnA (s : ByteArray) (k : Nat) (t u : St) : Prop where
 but : Pp.But k t u
 get : get u s = (k, 0)
 fz : t.fuse = 0 → u.fuse = 0
 has : k < u.files.length
 nums : (u.seen.map (·.2)).Nodup
structure Died (k : Nat) (t v : St) (f : File) : Prop where
 fuse : t.fuse ≠ 0
 but : Pp.But k t v
 dead : v.dead = true
 file : fileAt v k = f
structure Went (s : ByteArray) (k : Nat) (t u v : St) (f : File) : Prop where
 on : OnA s k t v
 file : fileAt v k = f
 acts : v.acts = u.acts + 1
 used : used v + len u k = used u + len v k
section
variable {t u : St} {k : Nat} {s : ByteArray}
theorem OnA.refl (hg : Sf.get t s = (k, 0)) (hk : k < t.files.length) (hn : (t.seen.map (·.2)).Nodup) : OnA s k t t := ⟨⟨rfl, rfl, fun _ _ => rfl, rfl, rfl, rfl⟩, hg, fun h => h, hk, hn⟩
theorem OnA.set {v : St} (h : OnA s k t u) (f : File) (h1 : v.room = u.room) (h2 : v.files = u.files.set k f) (h3 : v.sure = u.sure) (h4 : v.row = u.row) (h5 : v.seen = u.seen) : Pp.But k t v ∧ fileAt v k = f ∧ ∀ j, j ≠ k → fileAt v j = fileAt u j := by
 have hf : ∀ j, fileAt v j = if j = k then f else fileAt u j := fun j => by
  have := fileAt_set h.has f 0 j
  unfold fileAt at this ⊢
  rw [h2]; exact this
 exact ⟨⟨h1.trans h.but.room, by rw [h2, List.length_set]; exact h.but.len, fun j hj => by rw [hf j, if_neg hj]; exact h.but.file j hj, h3.trans h.but.sure, h4.trans h.but.row, h5.trans h.but.seen⟩, by rw [hf k, if_pos rfl], fun j hj => by rw [hf j, if_neg hj]⟩
theorem OnA.add (h : OnA s k t u) (a : Act) : (∃ v, add u k a = (0, v) ∧ Went s k t u v ⟨(fileAt u k).sure, (fileAt u k).row ++ [a]⟩) ∨ (∃ v, Sf.add u k a = (13, v) ∧ v.acts = u.acts + 1 ∧ Died k t v ⟨(fileAt u k).sure, (fileAt u k).row ++ [a]⟩) := by
 have hgf := get_find h.get
 rcases add_two u k a with ⟨f, h1, h2⟩ | ⟨h1, h2⟩
 ·obtain ⟨q1, q2, q3⟩ := h.set (v := arm_ (put u k a) f u.dead) ⟨(fileAt u k).sure, (fileAt u k).row ++ [a]⟩ rfl rfl rfl rfl rfl
  refine .inl ⟨_, h1, ⟨q1, get_of hgf.1 hgf.2, fun h0 => h2 (h.fz h0), ?_, h.nums⟩, q2, rfl, ?_⟩
  ·show k < (u.files.set k _).length
   rw [List.length_set]; exact h.has
  ·exact used_set (u := arm_ (put u k a) f u.dead) h.get h.nums rfl hgf.1 (fun j hj => by unfold len; rw [q3 j hj])
 ·obtain ⟨q1, q2, q3⟩ := h.set (v := arm_ (put u k a) 0 true) ⟨(fileAt u k).sure, (fileAt u k).row ++ [a]⟩ rfl rfl rfl rfl rfl
  exact .inr ⟨_, h2, rfl, fun h0 => h1 (h.fz h0), q1, rfl, q2⟩
theorem OnA.sync (h : OnA s k t u) : (∃ v, sync u s = (0, v) ∧ Went s k t u v ⟨now (fileAt u k), []⟩) ∨ (∃ v, Sf.sync u s = (13, v) ∧ v.acts = u.acts + 1 ∧ Died k t v (fileAt u k)) := by
 have hgf := get_find h.get
 rcases sync_two h.get with ⟨f, h1, h2⟩ | ⟨h1, h2⟩
 ·obtain ⟨q1, q2, q3⟩ := h.set (v := arm_ (syn u k) f u.dead) ⟨now (fileAt u k), []⟩ rfl rfl rfl rfl rfl
  refine .inl ⟨_, h1, ⟨q1, get_of hgf.1 hgf.2, fun h0 => h2 (h.fz h0), ?_, h.nums⟩, q2, rfl, ?_⟩
  ·show k < (u.files.set k _).length
   rw [List.length_set]; exact h.has
  ·exact used_set (u := arm_ (syn u k) f u.dead) h.get h.nums rfl hgf.1 (fun j hj => by unfold len; rw [q3 j hj])
 ·exact .inr ⟨_, h2, rfl, fun h0 => h1 (h.fz h0), ⟨h.but.room, h.but.len, h.but.file, h.but.sure, h.but.row, h.but.seen⟩, rfl, rfl⟩
theorem OnA.append (h : OnA s k t u) (b : List Nat) : append u s b = if 0 < b.length ∧ u.room < used u + b.length then (9, u) else Sf.add u k ⟨false, len u k, b⟩ := by
 unfold Sf.append
 rw [h.get, if_neg (by simp)]
theorem OnA.write (h : OnA s k t u) (a : Nat) (ha : a ≤ len u k) (b : List Nat) : write u s (a : Nat) b = if len u k < a + b.length ∧ u.room < used u + (a + b.length - len u k) then (9, u) else Sf.add u k ⟨false, a, b⟩ := by
 unfold Sf.write
 rw [h.get, if_neg (by simp)]
 simp only [Int.toNat_natCast]
 rw [if_neg (by omega)]
theorem OnA.cut (h : OnA s k t u) (a : Nat) (ha : a ≤ len u k) : cut u s (a : Nat) = Sf.add u k ⟨true, a, []⟩ := by
 unfold Sf.cut
 rw [h.get, if_neg (by simp)]
 simp only [Int.toNat_natCast]
 rw [if_neg (by omega)]
end
end Sf
end Go.Proofs.YtiafeniflkikeaaGreat
namespace Go.Proofs.YtiafeniflkikeaaGreat
open Go.RowKit
set_option linter.unusedVariables false
namespace Pp
open Sf (done torn)
def Free (F : List Nat) (m : List Pa.Page) (a : Sf.Act) : Prop :=
 (a.cut = true ∧ F.length ≤ a.at_) ∨ (a.cut = false ∧ ∀ i, a.at_ ≤ i → i < a.at_ + a.b.length → i < F.length → ∃ x ∈ m, 512 * x.n ≤ i ∧ i < 512 * (x.n + 1))
theorem Off.done {F G : List Nat} {m : List Pa.Page} {a : Sf.Act} (h : Off F G m) (ha : Free F m a) (hl : a.at_ ≤ G.length) : Off F (done G a) m := by
 unfold Sf.done
 have hg := h.1
 rcases ha with ⟨hc, ha⟩ | ⟨hc, ha⟩
 ·rw [if_pos hc]
  refine ⟨by rw [List.length_take]; omega, fun i hi hq => ?_⟩
  rw [List.getElem?_take_of_lt (by omega)]
  exact h.2 i hi hq
 ·rw [if_neg (by rw [hc]; simp)]
  refine ⟨by rw [List.length_append, List.length_append, List.length_take, List.length_drop]; omega, fun i hi hq => ?_⟩
  rw [List.append_assoc]
  by_cases h1 : i < a.at_
  ·rw [List.getElem?_append_left (by rw [List.length_take]; omega), List.getElem?_take_of_lt h1]
   exact h.2 i hi hq
  ·by_cases h2 : i < a.at_ + a.b.length
   ·obtain ⟨x, hx, h3, h4⟩ := ha i (by omega) h2 hi
    have := hq x hx
    omega
   ·have e : min a.at_ G.length = a.at_ := by omega
    rw [List.getElem?_append_right (by rw [List.length_take]; omega), List.length_take, e, List.getElem?_append_right (by omega), List.getElem?_drop]
    have e2 : a.at_ + a.b.length + (i - a.at_ - a.b.length) = i := by omega
    rw [e2]
    exact h.2 i hi hq
def Frees (F : List Nat) (m : List Pa.Page) : List Nat → List Sf.Act → Prop
 | _, [] => True
 | G, a :: l => Free F m a ∧ a.at_ ≤ G.length ∧ Frees F m (done G a) l
theorem Frees.snoc {F : List Nat} {m : List Pa.Page} {a : Sf.Act} : ∀ {l : List Sf.Act} {G : List Nat}, Frees F m G l → Free F m a → a.at_ ≤ (l.foldl done G).length → Frees F m G (l ++ [a])
 | [], G, _, h2, h3 => ⟨h2, h3, trivial⟩
 | b :: l, G, h1, h2, h3 => ⟨h1.1, h1.2.1, Frees.snoc h1.2.2 h2 h3⟩
theorem Frees.off {F : List Nat} {m : List Pa.Page} : ∀ {l : List Sf.Act} {G : List Nat}, Frees F m G l → Off F G m → ∀ j, Off F ((l.take j).foldl done G) m ∧ ∀ a, l[j]? = some a → Free F m a ∧ a.at_ ≤ ((l.take j).foldl done G).length
 | [], G, _, h2, j => ⟨by simpa using h2, fun a h => by simp at h⟩
 | b :: l, G, h1, h2, 0 => ⟨h2, fun a h => by simp at h; subst h; exact ⟨h1.1, h1.2.1⟩⟩
 | b :: l, G, h1, h2, j + 1 => by
  have := Frees.off h1.2.2 (h2.done h1.1 h1.2.1) j
  simpa using this
theorem Off.torn {F G : List Nat} {m : List Pa.Page} {a : Sf.Act} (h : Off F G m) (ha : Free F m a) (hc : a.cut = false) (hl : a.at_ ≤ G.length) (n : Nat) : Off F (torn G a n) m := by
 unfold Sf.torn
 simp only
 generalize (if a.at_ + n < G.length then (a.at_ + n) / 512 * 512 else a.at_ + n) = e
 by_cases he : e ≤ a.at_
 ·rw [if_pos he]; exact h
 ·rw [if_neg he]
  refine h.done (a := ⟨false, a.at_, a.b.take (e - a.at_)⟩) (.inr ⟨rfl, fun i h1 h2 h3 => ?_⟩) hl
  rcases ha with ⟨h4, _⟩ | ⟨_, ha⟩
  ·rw [hc] at h4; cases h4
  ·refine ha i h1 ?_ h3
   simp only [List.length_take] at h2
   omega
theorem vers_free {F : List Nat} {m : List Pa.Page} {f : Sf.File} {l : List Sf.Act} (hF : Sf.now f = F) (hrow : f.row.length < 18446744073709551616) (hl : Frees F m F l) {x : List Nat} (h : Vers ⟨f.sure, f.row ++ l⟩ x) : Vers f x ∨ Off F x m := by
 obtain ⟨q, rfl⟩ := h
 have hb : ∀ j, f.row.length ≤ j → Sf.bytes ⟨f.sure, f.row ++ l⟩ j = (l.take (j - f.row.length)).foldl done F := fun j hj => by
  unfold Sf.bytes
  rw [List.take_append, List.take_of_length_le hj, List.foldl_append]
  unfold Sf.now at hF
  rw [hF]
 have hs : ∀ j, j ≤ f.row.length → Sf.bytes ⟨f.sure, f.row ++ l⟩ j = Sf.bytes f j := fun j hj => by
  unfold Sf.bytes
  rw [List.take_append_of_le_length hj]
 have hoff := Frees.off hl (Off.refl F m)
 unfold Sf.kept1
 obtain ⟨j, hj⟩ : ∃ j, Sf.took q ((⟨f.sure, f.row ++ l⟩ : Sf.File).row.length + 1) = j := ⟨_, rfl⟩
 rw [hj]
 by_cases h1 : j < f.row.length
 ·left
  have hleft : Sf.left (j : Int) (f.row.length + 1) = j := by
   unfold Sf.left
   rw [Int.emod_eq_of_lt (by omega) (by omega), Int.toNat_natCast, Nat.mod_eq_of_lt (by omega)]
  have e1 : Sf.took ((j : Int) :: q.drop 1) (f.row.length + 1) = j := hleft
  have hr : (⟨f.sure, f.row ++ l⟩ : Sf.File).row[j]? = f.row[j]? := List.getElem?_append_left h1
  refine ⟨(j : Int) :: q.drop 1, ?_⟩
  unfold Sf.kept1
  rw [e1, hr, hs j (by omega), List.getElem?_eq_getElem h1]
  simp only [List.drop_succ_cons, List.drop_zero]
  split <;> rfl
 ·right
  have h2 := hoff (j - f.row.length)
  rw [← hb j (by omega)] at h2
  have hr : (⟨f.sure, f.row ++ l⟩ : Sf.File).row[j]? = l[j - f.row.length]? := List.getElem?_append_right (by omega)
  rw [hr]
  cases hq : l[j - f.row.length]? with
  | none => exact h2.1
  | some a =>
   obtain ⟨h3, h4⟩ := h2.2 a hq
   simp only
   by_cases hc : a.cut = true
   ·rw [if_pos hc]; exact h2.1
   ·rw [if_neg hc]
    exact h2.1.torn h3 (by simpa using hc) h4 _
end Pp
end Go.Proofs.YtiafeniflkikeaaGreat
namespace Go.Proofs.YtiafeniflkikeaaGreat
open Go.RowKit
set_option linter.unusedVariables false
namespace Pp
structure Way (s : ByteArray) (k : Nat) (t : Sf.St) (F : List Nat) (m : List Pa.Page) (u : Sf.St) : Prop where
 on : Sf.OnA s k t u
 free : ∃ l, Sf.fileAt u k = ⟨(Sf.fileAt t k).sure, (Sf.fileAt t k).row ++ l⟩ ∧ Frees F m F l
def Lost (k : Nat) (t : Sf.St) (F : List Nat) (m : List Pa.Page) (v : Sf.St) : Prop :=
 ∃ l, Sf.Died k t v ⟨(Sf.fileAt t k).sure, (Sf.fileAt t k).row ++ l⟩ ∧ Frees F m F l
section
variable {t u : Sf.St} {k : Nat} {s : ByteArray} {F G : List Nat} {m : List Pa.Page}
theorem now_more {f : Sf.File} (hF : Sf.now f = F) (l : List Sf.Act) : Sf.now ⟨f.sure, f.row ++ l⟩ = l.foldl Sf.done F := by
 unfold Sf.now at hF ⊢
 rw [List.foldl_append, hF]
theorem Way.off (h : Way s k t F m u) (hF : Sf.now (Sf.fileAt t k) = F) : Off F (Sf.now (Sf.fileAt u k)) m := by
 obtain ⟨l, h1, h2⟩ := h.free
 have := (Frees.off h2 (Off.refl F m) l.length).1
 rw [List.take_length] at this
 rw [h1, now_more hF]
 exact this
theorem Way.add (h : Way s k t F m u) (hF : Sf.now (Sf.fileAt t k) = F) {a : Sf.Act} (ha : Free F m a) (hl : a.at_ ≤ Sf.len u k) :
  (∃ v, Sf.add u k a = (0, v) ∧ Way s k t F m v ∧ Sf.now (Sf.fileAt v k) = Sf.done (Sf.now (Sf.fileAt u k)) a ∧ v.acts = u.acts + 1 ∧ Sf.used v + Sf.len u k = Sf.used u + Sf.len v k) ∨
  (∃ v, Sf.add u k a = (13, v) ∧ v.acts = u.acts + 1 ∧ Lost k t F m v) := by
 obtain ⟨l, h1, h2⟩ := h.free
 have h3 : Frees F m F (l ++ [a]) := h2.snoc ha (by unfold Sf.len at hl; rw [h1, now_more hF] at hl; exact hl)
 have e : (⟨(Sf.fileAt u k).sure, (Sf.fileAt u k).row ++ [a]⟩ : Sf.File) = ⟨(Sf.fileAt t k).sure, (Sf.fileAt t k).row ++ (l ++ [a])⟩ := by rw [h1, List.append_assoc]
 rcases h.on.add a with ⟨v, q1, q2⟩ | ⟨v, q1, q2, q3⟩
 ·refine .inl ⟨v, q1, ⟨q2.on, l ++ [a], q2.file.trans e, h3⟩, ?_, q2.acts, q2.used⟩
  rw [q2.file, Sf.now_snoc]
 ·rw [e] at q3
  exact .inr ⟨v, q1, q2, l ++ [a], q3, h3⟩
theorem free_page {x : Pa.Page} (hx : x ∈ m) (hp : (pageF x).length = 512) : Free F m ⟨false, 512 * x.n, pageF x⟩ := .inr ⟨rfl, fun i h1 h2 h3 => ⟨x, hx, h1, by simp only at h2; omega⟩⟩
theorem free_end (h : F.length ≤ G.length) (b : List Nat) : Free F m ⟨false, G.length, b⟩ := .inr ⟨rfl, fun i h1 h2 h3 => by simp only at h1; omega⟩
theorem putsE_way {x : Pa.Page} (h : Way s k t F m u) (hF : Sf.now (Sf.fileAt t k) = F) (hG : Sf.now (Sf.fileAt u k) = G) (hx : x ∈ m) (hp : (pageF x).length = 512) :
  (u.room < Sf.used u + (max G.length (512 * (x.n + 1)) - G.length) ∧ G.length < 512 * (x.n + 1) ∧ ∃ u', putsE s u x = (9, u') ∧ Way s k t F m u' ∧ u'.acts ≤ u.acts + 1) ∨
  (¬ (G.length < 512 * (x.n + 1) ∧ u.room < Sf.used u + (max G.length (512 * (x.n + 1)) - G.length)) ∧ ∃ u', putsE s u x = (0, u') ∧ Way s k t F m u' ∧ Sf.now (Sf.fileAt u' k) = putF G x ∧ u'.acts ≤ u.acts + 2 ∧ Sf.used u' + G.length = Sf.used u + (putF G x).length) ∨
  (∃ u', putsE s u x = (13, u') ∧ Lost k t F m u' ∧ u'.acts ≤ u.acts + 2) := by
 have hlen : Sf.len u k = G.length := by unfold Sf.len; rw [hG]
 have hsz := Sf.size_get h.on.get
 have hwp := putF_len (F := G) hp
 have hFG : F.length ≤ G.length := by have := (h.off hF).1; rw [hG] at this; exact this
 -- behind the fill
 have key : ∀ v, Way s k t F m v → Sf.now (Sf.fileAt v k) = fillF G (512 * x.n) → v.acts ≤ u.acts + 1 → Sf.used v + G.length = Sf.used u + (fillF G (512 * x.n)).length → fillE u s (512 * x.n) = (0, v) → v.room = u.room →
   (u.room < Sf.used u + (max G.length (512 * (x.n + 1)) - G.length) ∧ G.length < 512 * (x.n + 1) ∧ ∃ u', putsE s u x = (9, u') ∧ Way s k t F m u' ∧ u'.acts ≤ u.acts + 1) ∨
   (¬ (G.length < 512 * (x.n + 1) ∧ u.room < Sf.used u + (max G.length (512 * (x.n + 1)) - G.length)) ∧ ∃ u', putsE s u x = (0, u') ∧ Way s k t F m u' ∧ Sf.now (Sf.fileAt u' k) = putF G x ∧ u'.acts ≤ u.acts + 2 ∧ Sf.used u' + G.length = Sf.used u + (putF G x).length) ∨
   (∃ u', putsE s u x = (13, u') ∧ Lost k t F m u' ∧ u'.acts ≤ u.acts + 2) := by
  intro v hv hvf hva hvu hfe hvr
  have hvl : Sf.len v k = (fillF G (512 * x.n)).length := by unfold Sf.len; rw [hvf]
  have hfl := fillF_len G (512 * x.n)
  have hw := hv.on.write (512 * x.n) (by rw [hvl, hfl]; omega) (pageF x)
  have hpe : putsE s u x = Sf.write v s ((512 * x.n : Nat) : Int) (pageF x) := by unfold putsE; rw [hfe, if_neg (by simp)]; rfl
  rw [hpe, hw, hvl, hp, hfl, hvr]
  by_cases hc : max G.length (512 * x.n) < 512 * x.n + 512 ∧ u.room < Sf.used v + (512 * x.n + 512 - max G.length (512 * x.n))
  ·rw [if_pos hc]
   exact .inl ⟨by omega, by omega, v, rfl, hv, hva⟩
  ·rw [if_neg hc]
   rcases hv.add hF (free_page hx hp) (by rw [hvl, hfl]; simp only; omega) with ⟨y, q1, q2, q3, q4, q5⟩ | ⟨y, q1, q2, q3⟩
   ·have q6 : Sf.len y k = (putF G x).length := by unfold Sf.len; rw [q3, hvf]; rfl
    exact .inr (.inl ⟨by omega, y, q1, q2, by rw [q3, hvf]; rfl, by omega, by omega⟩)
   ·exact .inr (.inr ⟨y, q1, q3, by omega⟩)
 by_cases ha : 512 * x.n ≤ G.length
 ·have hfe : fillE u s (512 * x.n) = (0, u) := by unfold fillE; rw [hsz, hlen, if_neg (by simp), if_pos ha]
  have hff : fillF G (512 * x.n) = G := if_pos ha
  exact key u h (by rw [hff]; exact hG) (by omega) (by rw [hff]) hfe rfl
 ·have hff : fillF G (512 * x.n) = G ++ noughts (512 * x.n - G.length) := if_neg ha
  have hfe : fillE u s (512 * x.n) = Sf.append u s (noughts (512 * x.n - G.length)) := by unfold fillE; rw [hsz, hlen, if_neg (by simp), if_neg ha]
  rw [h.on.append, noughts_len, hlen] at hfe
  by_cases hc : 0 < 512 * x.n - G.length ∧ u.room < Sf.used u + (512 * x.n - G.length)
  ·rw [if_pos hc] at hfe
   have hpe : putsE s u x = (9, u) := by unfold putsE; rw [hfe, if_pos (by simp)]
   exact .inl ⟨by omega, by omega, u, hpe, h, by omega⟩
  ·rw [if_neg hc] at hfe
   rcases h.add hF (free_end hFG (noughts (512 * x.n - G.length))) (by rw [hlen]; exact Nat.le_refl _) with ⟨v, q1, q2, q3, q4, q5⟩ | ⟨v, q1, q2, q3⟩
   ·rw [q1] at hfe
    have q6 : Sf.now (Sf.fileAt v k) = fillF G (512 * x.n) := by
     rw [q3, hG, hff]
     unfold Sf.done
     simp only [Bool.false_eq_true, if_false]
     rw [List.take_of_length_le (Nat.le_refl _), List.drop_of_length_le (by omega), List.append_nil]
    have q7 : Sf.len v k = (fillF G (512 * x.n)).length := by unfold Sf.len; rw [q6]
    exact key _ q2 q6 (by omega) (by omega) hfe (by rw [q2.on.but.room, h.on.but.room])
   ·rw [q1] at hfe
    have hpe : putsE s u x = (13, v) := by unfold putsE; rw [hfe, if_pos (by simp)]
    exact .inr (.inr ⟨v, hpe, q3, by omega⟩)
end
theorem putsL_way {s : ByteArray} {k : Nat} {t : Sf.St} {F : List Nat} {m : List Pa.Page} (hF : Sf.now (Sf.fileAt t k) = F) : ∀ (l : List Pa.Page) (u : Sf.St) (G : List Nat), (∀ x ∈ l, (pageF x).length = 512) → (∀ x ∈ l, x ∈ m) → Way s k t F m u → Sf.now (Sf.fileAt u k) = G →
  (u.room < Sf.used u + ((putsF G l).length - G.length) ∧ G.length < (putsF G l).length ∧ ∃ u', putsL s u l = (9, u') ∧ Way s k t F m u' ∧ u'.acts ≤ u.acts + 2 * l.length) ∨
  (¬ (G.length < (putsF G l).length ∧ u.room < Sf.used u + ((putsF G l).length - G.length)) ∧ ∃ u', putsL s u l = (0, u') ∧ Way s k t F m u' ∧ Sf.now (Sf.fileAt u' k) = putsF G l ∧ u'.acts ≤ u.acts + 2 * l.length ∧ Sf.used u' + G.length = Sf.used u + (putsF G l).length) ∨
  (∃ u', putsL s u l = (13, u') ∧ Lost k t F m u' ∧ u'.acts ≤ u.acts + 2 * l.length) := by
 intro l
 induction l with
 | nil =>
  intro u G hp hm h hG
  exact .inr (.inl ⟨fun h => absurd h.1 (Nat.lt_irrefl _), u, rfl, h, hG, Nat.le_refl _, rfl⟩)
 | cons x l ih =>
  intro u G hp hm h hG
  have hpx := hp x List.mem_cons_self
  have hpl : ∀ x ∈ l, (pageF x).length = 512 := fun z hz => hp z (List.mem_cons_of_mem _ hz)
  have hml : ∀ x ∈ l, x ∈ m := fun z hz => hm z (List.mem_cons_of_mem _ hz)
  have hpf := putF_len (F := G) hpx
  have e : putsF G (x :: l) = putsF (putF G x) l := rfl
  have hge := (putsF_off (F := putF G x) (m := l) hpl (fun _ h => h)).1
  have hL : putsL s u (x :: l) = if (putsE s u x).1 ≠ 0 then putsE s u x else putsL s (putsE s u x).2 l := rfl
  rw [e, List.length_cons]
  rcases putsE_way h hF hG (hm x List.mem_cons_self) hpx with ⟨a1, a2, u1, a3, a4, a6⟩ | ⟨a1, u1, a3, a4, a5, a6, a7⟩ | ⟨u1, a3, a4, a6⟩
  ·exact .inl ⟨by omega, by omega, u1, by rw [hL, a3, if_pos (by simp)], a4, by omega⟩
  ·rw [a3, if_neg (by simp)] at hL
   have hroom : u1.room = u.room := by rw [a4.on.but.room, h.on.but.room]
   rcases ih u1 (putF G x) hpl hml a4 a5 with ⟨b1, b2, u2, b3, b4, b6⟩ | ⟨b1, u2, b3, b4, b5, b6, b7⟩ | ⟨u2, b3, b4, b6⟩
   ·exact .inl ⟨by omega, by omega, u2, by rw [hL]; exact b3, b4, by omega⟩
   ·exact .inr (.inl ⟨by omega, u2, by rw [hL]; exact b3, b4, b5, by omega, by omega⟩)
   ·exact .inr (.inr ⟨u2, by rw [hL]; exact b3, b4, by omega⟩)
  ·exact .inr (.inr ⟨u1, by rw [hL, a3, if_pos (by simp)], a4, by omega⟩)
theorem writeE_way {s : ByteArray} {k : Nat} {t : Sf.St} {F Pb : List Nat} {pl : List Pa.Page} {at_ : Nat} (h : Sf.OnA s k t t) (hF : Sf.now (Sf.fileAt t k) = F) (hp : ∀ x ∈ pl, (pageF x).length = 512) (hb : 1024 ≤ F.length) (hat : at_ < 2) (hPb : Pb.length = 512) :
  (t.room < Sf.used t + ((putsF F pl).length - F.length) ∧ F.length < (putsF F pl).length ∧ ∃ t', writeE s t pl at_ Pb = (9, t') ∧ Sf.OnA s k t t' ∧ Off F (Sf.now (Sf.fileAt t' k)) pl ∧ (Sf.now (Sf.fileAt t' k)).length = F.length ∧ t'.acts ≤ t.acts + 2 * pl.length + 1) ∨
  (¬ (F.length < (putsF F pl).length ∧ t.room < Sf.used t + ((putsF F pl).length - F.length)) ∧ ∃ t', writeE s t pl at_ Pb = (0, t') ∧ Sf.OnA s k t t' ∧ Sf.fileAt t' k = ⟨Sf.done (putsF F pl) ⟨false, 512 * at_, Pb⟩, []⟩ ∧ t'.acts ≤ t.acts + 2 * pl.length + 3) ∨
  (∃ t', writeE s t pl at_ Pb = (13, t') ∧ (Lost k t F pl t' ∨ Sf.Died k t t' ⟨putsF F pl, [⟨false, 512 * at_, Pb⟩]⟩) ∧ t'.acts ≤ t.acts + 2 * pl.length + 3) := by
 have hlen : Sf.len t k = F.length := by unfold Sf.len; rw [hF]
 have hw : writeE s t pl at_ Pb = closeE s F.length (bodyE s t pl at_ Pb) := by unfold writeE; rw [Sf.size_get h.get, hlen, if_neg (by simp)]
 rw [hw]
 have hdead : ∀ v, bodyE s t pl at_ Pb = (13, v) → closeE s F.length (bodyE s t pl at_ Pb) = (13, v) := fun v e => by unfold closeE; rw [e, if_pos (by simp)]
 rcases putsL_way (s := s) (m := pl) hF pl t F hp (fun _ h => h) ⟨h, [], by rw [List.append_nil], trivial⟩ hF with ⟨a1, a2, u, a3, a4, a6⟩ | ⟨a1, u, a3, a4, a5, a6, a7⟩ | ⟨u, a3, a4, a6⟩
 ·have hbd : bodyE s t pl at_ Pb = (9, u) := by unfold bodyE; rw [a3, if_pos (by simp)]
  have a5 := a4.off hF
  have hul : F.length ≤ Sf.len u k := a5.1
  have hc := a4.on.cut F.length hul
  have hcl : closeE s F.length (bodyE s t pl at_ Pb) = ((if (Sf.cut u s (F.length : Nat)).1 ≠ 0 then (Sf.cut u s (F.length : Nat)).1 else 9), (Sf.cut u s (F.length : Nat)).2) := by
   unfold closeE; rw [hbd, if_neg (by simp)]
  rcases a4.add hF (a := ⟨true, F.length, []⟩) (.inl ⟨rfl, Nat.le_refl _⟩) hul with ⟨v, q1, q2, q3, q4, q5⟩ | ⟨v, q1, q2, q3⟩
  ·have q6 : Sf.now (Sf.fileAt v k) = (Sf.now (Sf.fileAt u k)).take F.length := by rw [q3]; unfold Sf.done; simp
   refine .inl ⟨a1, a2, v, ?_, q2.on, by rw [q6]; exact a5.cut, by rw [q6, List.length_take]; have := a5.1; omega, by omega⟩
   rw [hcl, hc, q1]
   simp
  ·refine .inr (.inr ⟨v, ?_, .inl q3, by omega⟩)
   rw [hcl, hc, q1]
   simp
 ·have hbig := (putsF_off (F := F) (m := pl) hp (fun _ h => h)).1
  rcases a4.on.sync with ⟨v, b1, b2⟩ | ⟨v, b1, b2, b3⟩
  ·have b3 : Sf.fileAt v k = ⟨putsF F pl, []⟩ := by rw [b2.file, a5]
   have hl1 : Sf.len v k = (putsF F pl).length := by unfold Sf.len; rw [b3]; rfl
   have b4 := b2.acts
   have hwr := b2.on.write (512 * at_) (by rw [hl1]; omega) Pb
   rw [if_neg (by rw [hl1, hPb]; omega)] at hwr
   rcases b2.on.add ⟨false, 512 * at_, Pb⟩ with ⟨y, c1, c2⟩ | ⟨y, c1, c2, c3⟩
   ·have c3 : Sf.fileAt y k = ⟨putsF F pl, [⟨false, 512 * at_, Pb⟩]⟩ := by rw [c2.file, b3]; rfl
    have c4 := c2.acts
    have hbd : bodyE s t pl at_ Pb = Sf.sync y s := by
     unfold bodyE
     rw [a3, if_neg (by simp), b1, if_neg (by simp), hwr, c1, if_neg (by simp)]
    rcases c2.on.sync with ⟨z, d1, d2⟩ | ⟨z, d1, d2, d3⟩
    ·have d3 := d2.acts
     refine .inr (.inl ⟨a1, z, by rw [hbd, d1]; unfold closeE; rw [if_pos (by simp)], d2.on, ?_, by omega⟩)
     rw [d2.file, c3]
     rfl
    ·rw [d1] at hbd
     exact .inr (.inr ⟨z, hdead _ hbd, .inr (by rw [c3] at d3; exact d3), by omega⟩)
   ·have hbd : bodyE s t pl at_ Pb = (13, y) := by
     unfold bodyE
     rw [a3, if_neg (by simp), b1, if_neg (by simp), hwr, c1, if_pos (by simp)]
    exact .inr (.inr ⟨y, hdead _ hbd, .inr (by rw [b3] at c3; exact c3), by omega⟩)
  ·have hbd : bodyE s t pl at_ Pb = (13, v) := by
    unfold bodyE
    rw [a3, if_neg (by simp), b1, if_pos (by simp)]
   obtain ⟨l, f1, f2⟩ := a4.free
   rw [f1] at b3
   exact .inr (.inr ⟨v, hdead _ hbd, .inl ⟨l, b3, f2⟩, by omega⟩)
 ·have hbd : bodyE s t pl at_ Pb = (13, u) := by unfold bodyE; rw [a3, if_pos (by simp)]
  exact .inr (.inr ⟨u, hdead _ hbd, .inl a4, by omega⟩)
end Pp
end Go.Proofs.YtiafeniflkikeaaGreat
