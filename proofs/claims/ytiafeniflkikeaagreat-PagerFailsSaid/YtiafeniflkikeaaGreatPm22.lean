/- Parts of the proof. -/
import Derived.Test.YtiafeniflkikeaaGreatPm17
import Derived.Test.YtiafeniflkikeaaGreatPm14
import Derived.Test.YtiafeniflkikeaaGreatPm21
import Derived.Lib.Hide
import Derived.Test.YtiafeniflkikeaaGreatPm04
import Derived.BigRegion
import Derived.Test.YtiafeniflkikeaaGreatPm10
import Derived.Test.YtiafeniflkikeaaGreatPm11
import Derived.Laws.CopyRow
import Derived.Laws.IdiomCopy
namespace Go.Proofs.YtiafeniflkikeaaGreat
open Go.RowKit
set_option linter.unusedVariables false
theorem bless_eq : ∀ (x y : List UInt8), Op.bytesLess x y = decide (x < y)
 | [], [] => by simp [Op.bytesLess]
 | _ :: _, [] => by simp [Op.bytesLess]
 | [], _ :: _ => by simp [Op.bytesLess]
 | a :: x, b :: y => by
  rw [Op.bytesLess, bless_eq x y]
  simp only [List.cons_lt_cons_iff]
  by_cases h1 : a < b <;> by_cases h2 : a = b <;> by_cases h3 : x < y <;> simp [h1, h2, h3]
namespace Sf
structure OkDir (d : Dir) : Prop where
 rise : d.Pairwise (fun a b => a.1.toList < b.1.toList)
 name : ∀ e ∈ d, isName e.1 = true
theorem OkDir.nil : OkDir [] := ⟨List.Pairwise.nil, by simp⟩
theorem OkDir.nodup {d : Dir} (h : OkDir d) : (d.map (·.1)).Nodup := by
 rw [List.nodup_iff_pairwise_ne, List.pairwise_map]
 exact List.Pairwise.imp (fun {a b} hab e => by rw [e] at hab; exact List.lt_irrefl _ hab) h.rise
theorem name_size {s : ByteArray} (h : isName s = true) : 1 ≤ s.size ∧ s.size ≤ 32 := by
 unfold isName at h
 simp at h
 exact ⟨h.1.2, h.2⟩
theorem name_max {s : ByteArray} (h : isName s = true) : s.size ≤ maxLen := by have := name_size h; simp only [maxLen]; omega
theorem name_ne {s : ByteArray} (h : isName s = true) : s ≠ ByteArray.empty := fun e => by
 have := name_size h
 rw [e] at this
 simp at this
theorem OkDir.without {d : Dir} (h : OkDir d) (s : ByteArray) : OkDir (without d s) := ⟨h.rise.sublist (without_sub d s), fun e he => h.name e ((without_sub d s).subset he)⟩
theorem OkDir.find {d : Dir} (h : OkDir d) {s : ByteArray} {n : Nat} : find d s = some n ↔ (s, n) ∈ d := by
 refine ⟨find_mem, fun hm => ?_⟩
 cases hf : Sf.find d s with
 | none => exact absurd rfl (find_none hf _ hm)
 | some m =>
  have hm2 := find_mem hf
  have hn := h.nodup
  congr 1
  clear hf h
  induction d with
  | nil => cases hm
  | cons x d ih =>
   rw [List.map_cons, List.nodup_cons] at hn
   rcases List.mem_cons.1 hm with h1 | h1
   ·rcases List.mem_cons.1 hm2 with h2 | h2
    ·rw [← h1] at h2; exact (congrArg Prod.snd h2)
    ·exact absurd (List.mem_map.2 ⟨_, h2, by rw [← h1]⟩) hn.1
   ·rcases List.mem_cons.1 hm2 with h2 | h2
    ·exact absurd (List.mem_map.2 ⟨_, h1, by rw [← h2]⟩) hn.1
    ·exact ih h1 h2 hn.2
theorem ahead_split (d : Dir) (s : ByteArray) : d.take (ahead d s) = d.takeWhile (fun e => Op.bytesLess e.1.toList s.toList) ∧ d.drop (ahead d s) = d.dropWhile (fun e => Op.bytesLess e.1.toList s.toList) := by
 unfold ahead
 induction d with
 | nil => simp
 | cons x d ih =>
  by_cases hx : Op.bytesLess x.1.toList s.toList = true
  ·simp only [List.takeWhile_cons, List.dropWhile_cons, hx, if_true, List.length_cons, List.take_succ_cons, List.drop_succ_cons, ih.1, ih.2, and_self]
  ·simp only [List.takeWhile_cons, List.dropWhile_cons, hx, Bool.false_eq_true, if_false, List.length_nil, List.take_zero, List.drop_zero, and_self]
theorem toList_inj {a b : ByteArray} (h : a.toList = b.toList) : a = b := by
 rw [ByteArray.toList_eq, ByteArray.toList_eq] at h
 obtain ⟨a⟩ := a
 obtain ⟨b⟩ := b
 simp only at h
 rw [Array.toList_inj.1 h]
theorem OkDir.with_ {d : Dir} (h : OkDir d) {s : ByteArray} (hs : isName s = true) (hn : Sf.find d s = none) (n : Nat) : OkDir (with_ d s n) := by
 refine ⟨?_, fun e he => ?_⟩
 ·unfold Sf.with_
  obtain ⟨e1, e2⟩ := ahead_split d s
  rw [e1, e2]
  have hall : d.takeWhile (fun e => Op.bytesLess e.1.toList s.toList) ++ d.dropWhile (fun e => Op.bytesLess e.1.toList s.toList) = d := List.takeWhile_append_dropWhile
  have hr := h.rise
  rw [← hall, List.pairwise_append] at hr
  have hlt : ∀ e ∈ d.takeWhile (fun e => Op.bytesLess e.1.toList s.toList), e.1.toList < s.toList := fun e he => by
   have := (List.all_eq_true.1 (List.all_takeWhile (p := fun e : ByteArray × Nat => Op.bytesLess e.1.toList s.toList) (l := d))) e he
   simp only [bless_eq] at this
   simpa using this
  have hgt : ∀ e ∈ d.dropWhile (fun e => Op.bytesLess e.1.toList s.toList), s.toList < e.1.toList := by
   intro e he
   cases hd : d.dropWhile (fun e => Op.bytesLess e.1.toList s.toList) with
   | nil => rw [hd] at he; cases he
   | cons x r =>
    have hx : ¬ Op.bytesLess x.1.toList s.toList = true := by
     have := List.head?_dropWhile_not (fun e : ByteArray × Nat => Op.bytesLess e.1.toList s.toList) d
     rw [hd] at this
     simpa using this
    have hxm : x ∈ d := by rw [← hall, hd]; simp
    have hxs : x.1 ≠ s := find_none hn x hxm
    rw [bless_eq, decide_eq_true_eq] at hx
    have hsx : s.toList < x.1.toList := by
     apply Classical.byContradiction
     intro h2
     exact hxs (toList_inj (List.le_antisymm (List.not_lt.1 h2) (List.not_lt.1 hx)))
    rw [hd] at he
    rcases List.mem_cons.1 he with rfl | he
    ·exact hsx
    ·have hp := hr.2.1
     rw [hd] at hp
     exact List.lt_trans hsx ((List.pairwise_cons.1 hp).1 e he)
  rw [List.pairwise_append]
  refine ⟨hr.1, List.pairwise_cons.2 ⟨fun e he => hgt e he, hr.2.1⟩, fun a ha b hb => ?_⟩
  rcases List.mem_cons.1 hb with rfl | hb
  ·exact hlt a ha
  ·exact hr.2.2 a ha b hb
 ·rcases mem_with.1 he with rfl | he
  ·exact hs
  ·exact h.name e he
def doN (d : Dir) (a : RawN) : Dir := if a.come = ByteArray.empty then without d a.gone else with_ (without (without d a.gone) a.come) a.come a.num
theorem find_without_any (d : Dir) (s u : ByteArray) : find (without d s) u = if u = s then none else find d u := by
 by_cases e : u = s
 ·subst e; rw [if_pos rfl]; exact find_without_self d u
 ·rw [if_neg e]; exact find_without (Ne.symm e)
theorem find_doN (d : Dir) (a : RawN) (u : ByteArray) : find (doN d a) u = if a.come ≠ ByteArray.empty ∧ u = a.come then some a.num else if u = a.gone then none else find d u := by
 unfold doN
 by_cases h : a.come = ByteArray.empty
 ·rw [if_pos h, if_neg (fun h2 => h2.1 h)]
  exact find_without_any d _ u
 ·rw [if_neg h]
  by_cases h2 : u = a.come
  ·rw [if_pos ⟨h, h2⟩, h2]
   exact find_with_self _ _ _ (find_without_self _ _)
  ·rw [if_neg (fun h3 => h2 h3.2), find_with (Ne.symm h2), find_without (Ne.symm h2)]
   exact find_without_any d _ u
theorem OkDir.doN {d : Dir} (h : OkDir d) {a : RawN} (ha : a.come = ByteArray.empty ∨ isName a.come = true) : OkDir (doN d a) := by
 unfold Sf.doN
 split
 ·exact h.without _
 ·rename_i hc
  exact ((h.without _).without _).with_ (ha.resolve_left hc) (find_without_self _ _) _
theorem without_none {d : Dir} {s : ByteArray} (h : ∀ e ∈ d, e.1 ≠ s) : without d s = d := by
 unfold without
 rw [List.filter_eq_self]
 intro e he
 simpa using h e he
theorem create_doN {d : Dir} (h : OkDir d) {s : ByteArray} (hs : isName s = true) (hn : find d s = none) (n : Nat) : doN d ⟨ByteArray.empty, s, n⟩ = with_ d s n := by
 unfold doN
 rw [if_neg (name_ne hs)]
 simp only
 rw [without_none (fun e he => name_ne (h.name e he)), without_none (find_none hn)]
theorem mem_doN {d : Dir} {a : RawN} {e : ByteArray × Nat} (h : e ∈ doN d a) : e ∈ d ∨ (a.come ≠ ByteArray.empty ∧ e = (a.come, a.num)) := by
 unfold doN at h
 split at h
 ·exact .inl ((without_sub _ _).subset h)
 ·rename_i hc
  rcases mem_with.1 h with h | h
  ·exact .inr ⟨hc, h⟩
  ·exact .inl ((without_sub _ _).subset ((without_sub _ _).subset h))
def dirs (d : Dir) : List RawN → List Dir
 | [] => []
 | a :: r => doN d a :: dirs (doN d a) r
theorem dirs_len (d : Dir) (l : List RawN) : (dirs d l).length = l.length := by
 induction l generalizing d with
 | nil => rfl
 | cons a r ih => simp [dirs, ih]
theorem dirs_snoc (d : Dir) (l : List RawN) (a : RawN) : dirs d (l ++ [a]) = dirs d l ++ [doN (l.foldl doN d) a] := by
 induction l generalizing d with
 | nil => rfl
 | cons x r ih => simp [dirs, ih]
theorem dirs_at (d : Dir) (l : List RawN) (k : Nat) (hk : k < l.length) : (dirs d l)[k]? = some ((l.take (k + 1)).foldl doN d) := by
 induction l generalizing d k with
 | nil => simp at hk
 | cons x r ih =>
  cases k with
  | zero => simp [dirs]
  | succ k =>
   simp at hk
   simp [dirs, ih (doN d x) k hk]
def dirF (d : Dir) (s : ByteArray) : Option Int := Option.map (fun n : Nat => (n : Int)) (find d s)
theorem dirF_doN (d : Dir) (a : RawN) : dirF (doN d a) = fun u => if a.come ≠ ByteArray.empty ∧ u = a.come then some (a.num : Int) else if u = a.gone then none else dirF d u := by
 funext u
 unfold dirF
 rw [find_doN]
 split
 ·rfl
 ·split <;> rfl
def dirL (d : Dir) : List (ByteArray × Int) := d.map fun e => (e.1, (e.2 : Int))
theorem dirF_iff {d : Dir} (h : OkDir d) (s : ByteArray) (y : Int) : dirF d s = some y ↔ (s, y) ∈ dirL d := by
 unfold dirF dirL
 rw [Option.map_eq_some_iff, List.mem_map]
 constructor
 ·rintro ⟨n, hn, rfl⟩
  exact ⟨(s, n), h.find.1 hn, rfl⟩
 ·rintro ⟨e, he, heq⟩
  obtain ⟨rfl, rfl⟩ := Prod.mk.inj heq
  exact ⟨e.2, h.find.2 he, rfl⟩
theorem dirL_keys (d : Dir) : (dirL d).map (·.1) = d.map (·.1) := by unfold dirL; rw [List.map_map]; rfl
end Sf
theorem fM_ok : MpOk fM where
 only := fun v kl h => by
  obtain ⟨x, h1, h2, h3⟩ := Maps.keyOf_int_inv Tryz.underlying3 h
  exact ⟨x, h3, h1, h2⟩
 elem := fun v y h => readX_any v y h
 dinj := fun a b h => datX_inj h
theorem dM_ok : MpOk dM where
 only := fun v kl h => by
  obtain ⟨s, h1, h2, h3⟩ := WideMaps.string_of_keyOf Tryz.underlying9 h
  exact ⟨s, h3, h1, h2⟩
 elem := fun v y h => by
  cases v with
  | int q a =>
   simp only [dM, readInt] at h
   split at h
   ·rename_i e
    subst e
    exact ⟨a, rfl, (Option.some.inj h).symm⟩
   ·cases h
  | _ => simp [dM, readInt] at h
 dinj := fun a b h => by simpa [dM] using h
theorem dir_len {w : World} {b n : Nat} {d : Sf.Dir} (h : IsMp dM w b n (Sf.dirF d)) (hd : Sf.OkDir d) (ty : TypeId) : (Builtin.len_ #[68] ty #[.map (some b)]).run Tryz.prog w = .ok (.int .i64 (d.length : Nat)) w := by
 have := h.size_ dM_ok (Sf.dirL d) (by rw [Sf.dirL_keys]; exact hd.nodup) (fun e he => by
  obtain ⟨x, hx, rfl⟩ := List.mem_map.1 he
  exact Sf.name_max (hd.name x hx)) (fun x _ y => Sf.dirF_iff hd x y) ty
 rw [Sf.dirL, List.length_map] at this
 exact this
end Go.Proofs.YtiafeniflkikeaaGreat
namespace Go.Proofs.YtiafeniflkikeaaGreat
open Go.RowKit
set_option linter.unusedVariables false
section
variable {P : Program} {α : Type} {K : El P α} {w w' : World} {base B : Nat} {v : Value} {l : List α}
theorem OwnL.take_ {g c n : Nat} (h : OwnL K w base (.slice (some ⟨g, 0, none⟩) n c) l) {k : Nat} (hk : k ≤ l.length) : OwnL K w base (.slice (some ⟨g, 0, none⟩) k c) (l.take k) := by
 rcases h.2 with ⟨e, rfl⟩ | ⟨g', s, e, hb, hs, hm, hh⟩
 ·cases e
 ·injection e with e1 e2 e3
  injection e1 with e1
  injection e1 with e1
  subst e1 e2 e3
  have hl : (l.take k).length = k := by rw [List.length_take, Nat.min_eq_left hk]
  have hl2 : (l.take k).length + (l.drop k ++ s).length = l.length + s.length := by rw [hl, List.length_append, List.length_drop]; omega
  refine ⟨fun y hy => h.1 y (List.mem_of_mem_take hy), .inr ⟨g, l.drop k ++ s, by rw [hl2, hl], hb, fun y hy => ?_, by rw [hl2]; exact hm, ?_⟩⟩
  ·rcases List.mem_append.1 hy with hy | hy
   ·exact h.1 y (List.mem_of_mem_drop hy)
   ·exact hs y hy
  ·rw [hh, ← List.append_assoc, List.take_append_drop]
end
end Go.Proofs.YtiafeniflkikeaaGreat
namespace Go.Proofs.YtiafeniflkikeaaGreat
open Go.RowKit
set_option linter.unusedVariables false
inductive Role where
 | head | files | names | sure | row | bytes
 | fsure (i : Nat) | frow (i : Nat) | fnow (i : Nat)
abbrev Who := Nat → Option Role
def Bears (who : Who) (v : Value) (r : Role) : Prop := ∀ k, v.ownBlock = some k → who k = some r
theorem Bears.nil_ (who : Who) (r : Role) : Bears who (.slice none 0 0) r := fun k h => by cases h
def More (who who' : Who) : Prop := ∀ k r, who k = some r → who' k = some r
theorem More.refl (who : Who) : More who who := fun _ _ h => h
theorem More.trans {a b c : Who} (h : More a b) (h2 : More b c) : More a c := fun k r h3 => h2 k r (h k r h3)
theorem Bears.more {who who' : Who} {v : Value} {r : Role} (h : Bears who v r) (hm : More who who') : Bears who' v r := fun k hk => hm k r (h k hk)
def lab (who : Who) (v : Value) (r : Role) : Who := fun k => match v.ownBlock with
 | some j => if k = j then some r else who k
 | none => who k
theorem lab_bears (who : Who) (v : Value) (r : Role) : Bears (lab who v r) v r := fun k hk => by unfold lab; rw [hk]; simp
theorem lab_more {who : Who} {v : Value} {r : Role} (h : ∀ k, v.ownBlock = some k → who k = none ∨ who k = some r) : More who (lab who v r) := fun k q hk => by
 unfold lab
 cases hv : v.ownBlock with
 | none => exact hk
 | some j =>
  simp only
  split
  ·rename_i e
   subst e
   rcases h k hv with h1 | h1
   ·rw [h1] at hk; cases hk
   ·rw [h1] at hk; exact hk
  ·exact hk
theorem lab_old {who : Who} {v : Value} {r : Role} {k : Nat} (h : v.ownBlock ≠ some k) : lab who v r k = who k := by
 unfold lab
 cases hv : v.ownBlock with
 | none => rfl
 | some j =>
  simp only
  rw [if_neg (fun e => h (by rw [hv, e]))]
theorem lab_some {who : Who} {v : Value} {r : Role} {k : Nat} (h : (lab who v r k).isSome) : (who k).isSome ∨ v.ownBlock = some k := by
 by_cases hv : v.ownBlock = some k
 ·exact .inr hv
 ·rw [lab_old hv] at h; exact .inl h
structure ActV (w : World) (who : Who) (r : RawC) (a : Sf.Act) : Prop where
 cut : r.cut = a.cut
 at_ : r.at_ = a.at_
 lv : Lv yK w w.heap.size (slV r.sl) a.b
 blk : 0 < a.b.length → Bears who (slV r.sl) .bytes
structure HasX (w : World) (who : Who) (i : Nat) (x : RawX) (f : Sf.File) : Prop where
 sure : OwnL yK w 0 (slV x.sure) f.sure
 sureW : Bears who (slV x.sure) (.fsure i)
 now : OwnL yK w 0 (slV x.now) (Sf.now f)
 nowW : Bears who (slV x.now) (.fnow i)
 row : ∃ rc : List RawC, rc.length = f.row.length ∧ OwnL cK w 0 (slV x.row) rc ∧ ∀ (j : Nat) (r : RawC) (a : Sf.Act), rc[j]? = some r → f.row[j]? = some a → ActV w who r a
 rowW : Bears who (slV x.row) (.frow i)
 nil : f.row = [] → x.row = ⟨none, 0, 0⟩
 ok : FileOk f
section
variable {w w' : World} {who who' : Who} {F : Nat → Prop}
theorem Bears.off {v : Value} {r : Role} (h : Bears who v r) (hF : ∀ k, F k → who k ≠ some r) : ∀ k, v.ownBlock = some k → ¬ F k := fun k hk hf => hF k hf (h k hk)
theorem ActV.turned {r : RawC} {a : Sf.Act} (h : ActV w who r a) (ht : Turned F w w') (hF : ∀ k, F k → who k ≠ some .bytes) : ActV w' who r a :=
 ⟨h.cut, h.at_, (h.lv.turnedB_ ht (fun hp => (h.blk hp).off hF)).mono_ ht.size, h.blk⟩
theorem ActV.more {r : RawC} {a : Sf.Act} (h : ActV w who r a) (hm : More who who') : ActV w who' r a := ⟨h.cut, h.at_, h.lv, fun hp => (h.blk hp).more hm⟩
theorem HasX.turned {i : Nat} {x : RawX} {f : Sf.File} (h : HasX w who i x f) (ht : Turned F w w') (hF : ∀ k, F k → who k ≠ some .bytes ∧ who k ≠ some (.fsure i) ∧ who k ≠ some (.frow i) ∧ who k ≠ some (.fnow i)) : HasX w' who i x f := by
 obtain ⟨h1, h2, h3, h4, ⟨rc, h5, h6, h7⟩, h8, h9, h10⟩ := h
 exact ⟨h1.turned_ ht (h2.off fun k hk => (hF k hk).2.1), h2, h3.turned_ ht (h4.off fun k hk => (hF k hk).2.2.2), h4,
  ⟨rc, h5, h6.turned_ ht (h8.off fun k hk => (hF k hk).2.2.1), fun j r a hr ha => (h7 j r a hr ha).turned ht fun k hk => (hF k hk).1⟩, h8, h9, h10⟩
theorem HasX.more {i : Nat} {x : RawX} {f : Sf.File} (h : HasX w who i x f) (hm : More who who') : HasX w who' i x f := by
 obtain ⟨h1, h2, h3, h4, ⟨rc, h5, h6, h7⟩, h8, h9, h10⟩ := h
 exact ⟨h1, h2.more hm, h3, h4.more hm, ⟨rc, h5, h6, fun j r a hr ha => (h7 j r a hr ha).more hm⟩, h8.more hm, h9, h10⟩
end
structure GoodS (s : Nat) (t : Sf.St) : Prop where
 room : t.room ≤ 1048576
 files : t.files.length ≤ 64 + t.acts + s
 rows : t.row.length ≤ t.acts + s
 acts : t.acts ≤ 1099511627776
 fuse : t.fuse < 9223372036854775808
 sure : Sf.OkDir t.sure
 seen : Sf.OkDir t.seen
 row : ∀ d ∈ t.row, Sf.OkDir d
 lens : ∀ d, d = t.sure ∨ d = t.seen ∨ d ∈ t.row → d.length ≤ 64 ∧ ∀ e ∈ d, e.2 < t.files.length
 nums : (t.seen.map (·.2)).Nodup
 frow : ∀ f ∈ t.files, f.row.length ≤ t.acts + s
theorem GoodS.slack {s : Nat} {t : Sf.St} (h : GoodS s t) : GoodS (s + 1) t := ⟨h.room, by have := h.files; omega, by have := h.rows; omega, h.acts, h.fuse, h.sure, h.seen, h.row, h.lens, h.nums, fun f hf => by have := h.frow f hf; omega⟩
def Reach (t : Sf.St) (i : Nat) : Prop := ∃ d, (d = t.sure ∨ d = t.seen ∨ d ∈ t.row) ∧ ∃ e ∈ d, e.2 = i
structure PBody (w : World) (who : Who) (s : Nat) (t : Sf.St) (bf bs bn : Nat) (vr : Sl) (ff : Int → Option RawX) (rn : List RawN) : Prop where
 files : IsMp fM w bf (64 + t.acts + s) ff
 names : IsMp dM w bn (64 + t.acts + s) (Sf.dirF t.seen)
 sure : IsMp dM w bs (64 + t.acts + s) (Sf.dirF t.sure)
 row : OwnL nK w 0 (slV vr) rn
 hrow : t.row = Sf.dirs t.sure rn
 hseen : t.seen = rn.foldl Sf.doN t.sure
 nil : t.row = [] → vr = ⟨none, 0, 0⟩
 file : ∀ (i : Int) (x : RawX), ff i = some x → ∃ (n : Nat) (f : Sf.File), i = (n : Int) ∧ t.files[n]? = some f ∧ HasX w who n x f
 there : ∀ n : Nat, Reach t n → (ff (n : Int)).isSome
 filesW : who bf = some .files
 namesW : who bn = some .names
 sureW : who bs = some .sure
 rowW : Bears who (slV vr) .row
def headP (t : Sf.St) (bf bs bn : Nat) (vr : Sl) : Array Value :=
 #[.int .i64 (t.room : Nat), .map (some bf), .int .i64 (t.files.length : Nat), .map (some bs), slV vr, .map (some bn), .int .i64 (t.acts : Nat), .int .i64 (t.fuse : Nat), .bool t.dead]
def IsHead (w : World) (b : Nat) (C : Array Value) : Prop := w.heap[b]? = some (.cells C 71 (0, 0))
structure PHas (w : World) (fp : Fp) (s : Nat) (t : Sf.St) (b : Nat) (who : Who) (bf bs bn : Nat) (vr : Sl) (ff : Int → Option RawX) (rn : List RawN) : Prop where
 head : IsHead w b (headP t bf bs bn vr)
 body : PBody w who s t bf bs bn vr ff rn
 good : GoodS s t
 mine : who b = some .head
 m : ∀ k, fp.M k ↔ (who k).isSome
 r : ∀ k, ¬ fp.R k
 lt : ∀ k, (who k).isSome → k < w.heap.size
def PDisk (w : World) (fp : Fp) (t : Sf.St) (b : Nat) : Prop := ∃ who bf bs bn vr ff rn, PHas w fp 0 t b who bf bs bn vr ff rn
section
variable {w w' : World} {fp : Fp} {s : Nat} {t : Sf.St} {b : Nat} {who who' : Who} {bf bs bn : Nat} {vr : Sl} {ff : Int → Option RawX} {rn : List RawN} {F : Nat → Prop}
theorem PBody.turned (h : PBody w who s t bf bs bn vr ff rn) (ht : Turned F w w') (hF : ∀ k, F k → who k = none ∨ who k = some .head) : PBody w' who s t bf bs bn vr ff rn := by
 have no : ∀ k r, r ≠ Role.head → who k = some r → ¬ F k := fun k r hr hk hf => by
  rcases hF k hf with h1 | h1
  ·rw [h1] at hk; cases hk
  ·rw [h1] at hk; exact hr (Option.some.inj hk).symm
 have no2 : ∀ r, r ≠ Role.head → ∀ k, F k → who k ≠ some r := fun r hr k hf hk => no k r hr hk hf
 exact ⟨h.files.turned_ ht (no _ _ (by simp) h.filesW), h.names.turned_ ht (no _ _ (by simp) h.namesW), h.sure.turned_ ht (no _ _ (by simp) h.sureW), h.row.turned_ ht (h.rowW.off (no2 _ (by simp))), h.hrow, h.hseen, h.nil,
  fun i x hx => by
   obtain ⟨n, f, h1, h2, h3⟩ := h.file i x hx
   exact ⟨n, f, h1, h2, h3.turned ht fun k hk => ⟨no2 _ (by simp) k hk, no2 _ (by simp) k hk, no2 _ (by simp) k hk, no2 _ (by simp) k hk⟩⟩,
  h.there, h.filesW, h.namesW, h.sureW, h.rowW⟩
theorem PHas.turned (h : PHas w fp s t b who bf bs bn vr ff rn) (ht : Turned F w w') (hF : ∀ k, F k → who k = none) : PHas w' fp s t b who bf bs bn vr ff rn := by
 have hb := h.lt b (by rw [h.mine]; rfl)
 exact ⟨(ht.block b hb (fun hf => by have := hF b hf; rw [h.mine] at this; cases this)).trans h.head, h.body.turned ht (fun k hk => .inl (hF k hk)), h.good, h.mine, h.m, h.r, fun k hk => Nat.lt_of_lt_of_le (h.lt k hk) ht.size⟩
theorem PHas.below (h : PHas w fp s t b who bf bs bn vr ff rn) (hb : Below w.heap.size w w') : PHas w' fp s t b who bf bs bn vr ff rn :=
 h.turned (Turned.of_below hb) fun k hk => by
  cases hw : who k with
  | none => rfl
  | some r => have := h.lt k (by rw [hw]; rfl); omega
theorem PHas.new (h : PHas w fp s t b who bf bs bn vr ff rn) {k : Nat} (hk : w.heap.size ≤ k) : who k = none := by
 cases hw : who k with
 | none => rfl
 | some r => have := h.lt k (by rw [hw]; rfl); omega
theorem PHas.cell (h : PHas w fp s t b who bf bs bn vr ff rn) {j : Nat} {u : Value} (hj : (headP t bf bs bn vr)[j]? = some u) : w.cell? ⟨b, j, none⟩ = some u := by
 rw [cell_of_row _ b j _ _ _ h.head]
 exact hj
theorem pdisk_lt (h : PDisk w fp t b) : fp.Lt w.heap.size := by
 obtain ⟨who, bf, bs, bn, vr, ff, rn, h⟩ := h
 exact fun k hk => hk.elim (fun hm => h.lt k ((h.m k).1 hm)) (fun hr => absurd hr (h.r k))
theorem pdisk_sep (h : PDisk w fp t b) : ∀ k, fp.M k → ¬ fp.R k := by
 obtain ⟨who, bf, bs, bn, vr, ff, rn, h⟩ := h
 exact fun k _ => h.r k
theorem pdisk_turned (h : PDisk w fp t b) (ht : Turned F w w') (hF : fp.Off F) : PDisk w' fp t b := by
 obtain ⟨who, bf, bs, bn, vr, ff, rn, h⟩ := h
 refine ⟨who, bf, bs, bn, vr, ff, rn, h.turned ht fun k hk => ?_⟩
 cases hw : who k with
 | none => rfl
 | some r => exact absurd ((h.m k).2 (by rw [hw]; rfl)) (hF k hk).1
theorem PHas.mono (h : PHas w fp s t b who bf bs bn vr ff rn) : PHas w fp (s + 1) t b who bf bs bn vr ff rn :=
 ⟨h.head, ⟨h.body.files.mono_ (by omega), h.body.names.mono_ (by omega), h.body.sure.mono_ (by omega), h.body.row, h.body.hrow, h.body.hseen, h.body.nil, h.body.file, h.body.there, h.body.filesW, h.body.namesW, h.body.sureW, h.body.rowW⟩, h.good.slack, h.mine, h.m, h.r, h.lt⟩
theorem PHas.len_seen (h : PHas w fp s t b who bf bs bn vr ff rn) {u : ByteArray} {k : Nat} (hg : Sf.get t u = (k, 0)) : t.dead = false ∧ Sf.find t.seen u = some k := by
 have := Sf.get_ok (t := t) (s := u) (by rw [hg])
 rw [hg] at this
 exact this
theorem PHas.file_of (h : PHas w fp s t b who bf bs bn vr ff rn) {u : ByteArray} {k : Nat} (hg : Sf.get t u = (k, 0)) : ∃ x, ff (k : Int) = some x ∧ k < t.files.length ∧ HasX w who k x (Sf.fileAt t k) := by
 obtain ⟨_, hf⟩ := h.len_seen hg
 have hm := Sf.find_mem hf
 have hs := h.body.there k ⟨t.seen, .inr (.inl rfl), _, hm, rfl⟩
 obtain ⟨x, hx⟩ := Option.isSome_iff_exists.1 hs
 obtain ⟨n, f, h1, h2, h3⟩ := h.body.file _ x hx
 have e : n = k := by omega
 subst e
 refine ⟨x, hx, (List.getElem?_eq_some_iff.1 h2).1, ?_⟩
 have : Sf.fileAt t n = f := by unfold Sf.fileAt; rw [List.getD_eq_getElem?_getD, h2]; rfl
 rw [this]
 exact h3
end
theorem pdisk_law : DiskLaw PDisk := ⟨pdisk_lt, pdisk_turned, pdisk_sep⟩
end Go.Proofs.YtiafeniflkikeaaGreat
namespace Go.Proofs.YtiafeniflkikeaaGreat
open Go.RowKit
set_option linter.unusedVariables false
set_option maxHeartbeats 1000000 in
set_option maxRecDepth 100000 in
theorem pbclone_any (v : Value) (l : List Nat) (B : Nat) (w : World) (h : Lv yK w B v l) (hB : B ≤ w.heap.size) (hsz : l.length ≤ 140737488355328) :
  Calls Tryz.prog 58 #[v] w (IsL1 yK l w) := by
 have H0 := Lib.hid h
 obtain ⟨A, c, rfl, h1, h2, h3, _⟩ := h
 cases A with
 | none =>
  have hc := h3 rfl
  have hl : l = [] := List.eq_nil_of_length_eq_zero (by omega)
  subst hl hc
  have hq := fun w => eql_nil_slice w none 0 0
  clear h1 h2 h3 hsz hB
  go_enter Tryz.func58, Tryz.ntmps58
  go_wp2
  go_ret
  exact ⟨none, 0, rfl, OwnL.nil_ _ _ _, Below.refl _ _⟩
 | some a =>
  have HN : Hid (OwnL yK (w.alloc (.cells #[] 5)) w.heap.size (.slice (some ⟨w.heap.size, 0, none⟩) 0 0) []) := ⟨by simp, .inr ⟨w.heap.size, [], rfl, Nat.le_refl _, by simp, by simp [maxLen], heap_alloc_new w _⟩⟩
  have H1 := Lib.hid (H0.out.below_ ((Below.refl w.heap.size w).alloc (Nat.le_refl _) (.cells #[] 5)) hB)
  have hb : Below w.heap.size w (w.alloc (.cells #[] 5)) := (Below.refl _ _).alloc (Nat.le_refl _) _
  have HB := Lib.hid hb
  clear hb
  have hq := fun w => eql_nil_slice w (some a) l.length c
  go_enter Tryz.func58, Tryz.ntmps58
  go_wp2_with (at_builtin; go_must (refine wpList_append_l _ yK rfl _ _ rfl w.heap.size _ rfl [] HN.out _ rfl B l H1.out (by show _ * 1 ≤ _; simp; omega) (by simp only [maxLen, List.length_nil]; omega) (by simp) ?_; intro A3 c3 w1 hA hG))
  go_ret
  simp only [List.nil_append] at hA
  exact ⟨A3, c3, by simp, hA, HB.out.grown hG HB.out.size (fun k hk => by have e : w.heap.size = k := Option.some.inj hk; omega)⟩
theorem sizeY : (Tryz.prog.info? 5).map (·.size) = some 1 := by kernel_rfl
theorem flatY (l : List Nat) : yK.flat l = l.map fun x => Value.int .u8 (x : Nat) := by
 induction l with
 | nil => rfl
 | cons x l ih => rw [flat_cons, ih]; rfl
set_option maxRecDepth 100000 in
theorem copy_at {w : World} {base B n c : Nat} {A : Option Addr} {l : List Nat} (h : OwnL yK w base (.slice A n c) l) (k : Nat) (hk : k ≤ l.length) {x : Value} {m : List Nat} (hx : Lv yK w B x m) :
  ∃ A' w2, (∀ w, (Instr.slice 40 (.slice A n c) (some (.int .i64 (k : Nat))) none none).run Tryz.prog w = .ok (.slice A' (n - k) (c - k)) w) ∧
   (∀ w, (Instr.sliceAt 40 (.slice A n c) (some (.int .i64 (k : Nat))) none none).run Tryz.prog w = .ok (.slice A' (n - k) (c - k)) w) ∧
   (Builtin.copy_ #[40, 40] 3 #[.slice A' (n - k) (c - k), x]).run Tryz.prog w = .ok (.int .i64 ((Nat.min m.length (l.length - k) : Nat))) w2 ∧
   OwnL yK w2 base (.slice A n c) (l.take k ++ m.take (Nat.min m.length (l.length - k)) ++ l.drop (k + Nat.min m.length (l.length - k))) ∧ w.grownBy w2 (Value.slice A n c).ownBlock := by
 have hform := h.form_
 obtain ⟨en, hc1, hc2⟩ := hform.len_
 subst en
 have hu : Tryz.prog.underlying yK.s = some (.slice (Tryz.prog.elem yK.s)) := yK.under
 have h1' : ∀ w, (Instr.slice yK.s (.slice A l.length c) (some (.int .i64 (k : Nat))) none none).run Tryz.prog w = .ok (.slice (if c = k then A else A.map (·.add (k * yK.size))) (l.length - k) (c - k)) w := by
  intro w
  rw [run_slice_l (P := Tryz.prog) w yK.s A l.length c hu .i64 (k : Nat) (by omega) (by omega), elem_size yK rfl]
  simp only [Result.andThen, sliced, Int.toNat_natCast]
 have h2' : ∀ w, (Instr.sliceAt yK.s (.slice A l.length c) (some (.int .i64 (k : Nat))) none none).run Tryz.prog w = .ok (.slice (if c = k then A else A.map (·.add (k * yK.size))) (l.length - k) (c - k)) w := by
  intro w
  rw [run_sliceAt_slice (P := Tryz.prog) w _ _ _ _ _ hu]
  exact h1' w
 have h1 : ∀ w, (Instr.slice 40 (.slice A l.length c) (some (.int .i64 (k : Nat))) none none).run Tryz.prog w = .ok (.slice (if c = k then A else A.map (·.add (k * yK.size))) (l.length - k) (c - k)) w := h1'
 have h2 : ∀ w, (Instr.sliceAt 40 (.slice A l.length c) (some (.int .i64 (k : Nat))) none none).run Tryz.prog w = .ok (.slice (if c = k then A else A.map (·.add (k * yK.size))) (l.length - k) (c - k)) w := h2'
 obtain ⟨A1, c1, rfl, hm1, hm2, hm3, hm4, hm5⟩ := hx
 obtain ⟨q, hq⟩ : ∃ q, Nat.min m.length (l.length - k) = q := ⟨_, rfl⟩
 have hq1 : q ≤ m.length := by rw [← hq]; exact Nat.min_le_left _ _
 have hq2 : q ≤ l.length - k := by rw [← hq]; exact Nat.min_le_right _ _
 rw [hq]
 by_cases h0 : 0 < q
 ·rcases h.2 with ⟨e, e2⟩ | ⟨g, s, e, hb, hs, hml, hh⟩
  ·subst e2
   simp at hq2
   omega
  ·injection e with e1 e2 e3
   subst e1 e3
   obtain ⟨b, off, rfl, hbB, hcell⟩ := hm5 (by omega)
   have hne : ¬ l.length + s.length = k := by omega
   have ea : (⟨g, 0, none⟩ : Addr).add k = ⟨g, k, none⟩ := by rw [add_addr, Nat.zero_add]
   have hrun := run_copy_row (P := Tryz.prog) w 40 40 3 5 g k (l.length - k) (l.length + s.length - k) ⟨b, off, none⟩ m.length c1 _ 5 (yK.flat (m.take q)) Tryz.underlying40 sizeY hh
    (by rw [flat_len, List.length_take, hq, Nat.min_eq_left hq1]; exact Nat.mul_one _) (fun j v hj => by
     rw [add_addr]
     refine hcell j v ?_
     have e2 : yK.flat m = yK.flat (m.take q) ++ yK.flat (m.drop q) := by rw [← flat_app, List.take_append_drop]
     rw [e2, List.getElem?_append_left (List.getElem?_eq_some_iff.1 hj).1]
     exact hj) (by
     rw [flat_len, List.length_take, Nat.min_eq_left hq1, List.size_toArray, flat_len, List.length_append]
     show k + q * 1 ≤ (l.length + s.length) * 1
     omega) (fun u hu => flat_one_cell _ u hu)
   have hlen : (l.take k ++ m.take q ++ l.drop (k + q)).length = l.length := by simp; omega
   have hcs : ((yK.flat (l ++ s)).toArray.toList.take k ++ yK.flat (m.take q) ++ (yK.flat (l ++ s)).toArray.toList.drop (k + (yK.flat (m.take q)).length)).toArray = (yK.flat ((l.take k ++ m.take q ++ l.drop (k + q)) ++ s)).toArray := by
    have ef : (yK.flat (m.take q)).length = q := by rw [flat_len, List.length_take, Nat.min_eq_left hq1]; exact Nat.mul_one _
    rw [ef, List.toList_toArray, flatY, flatY, flatY, List.map_append, List.map_append, List.map_append, List.map_append]
    congr 1
    rw [List.take_append_of_le_length (by rw [List.length_map]; exact hk), List.drop_append_of_le_length (by rw [List.length_map]; omega), List.map_take, List.map_drop]
    simp [List.append_assoc]
   rw [hcs] at hrun
   refine ⟨_, w.setRow g (yK.flat ((l.take k ++ m.take q ++ l.drop (k + q)) ++ s)).toArray, h1, h2, ?_, ⟨fun y hy => ?_, .inr ⟨g, s, by rw [hlen], hb, hs, by rw [hlen]; exact hml, setRow_heap w g _ _ _ _ hh⟩⟩, ⟨rfl, rfl, rfl, by simp, fun i _ hi => setRow_other w g i _ (fun e => hi (by rw [e]; rfl))⟩⟩
   ·rw [if_neg hne, show yK.size = 1 from rfl, Nat.mul_one, Option.map_some, ea, hrun]
    congr 1
    rw [flat_len, List.length_take, Nat.min_eq_left hq1]
    show goInt ((q * 1 : Nat) : Int) = _
    rw [Nat.mul_one]; rfl
   ·rcases List.mem_append.1 hy with hy | hy
    ·rcases List.mem_append.1 hy with hy | hy
     ·exact h.1 y (List.mem_of_mem_take hy)
     ·exact hm4 y (List.mem_of_mem_take hy)
    ·exact h.1 y (List.mem_of_mem_drop hy)
 ·have hz : q = 0 := by omega
  rw [hz]
  have hrun := run_copy_none (P := Tryz.prog) w 40 40 3 5 (if c = k then A else A.map (·.add (k * yK.size))) A1 (l.length - k) (c - k) m.length c1 Tryz.underlying40 sizeY (by rw [hq, hz])
  refine ⟨_, w, h1, h2, hrun, ?_, ⟨rfl, rfl, rfl, Nat.le_refl _, fun _ _ _ => rfl⟩⟩
  simpa using h
end Go.Proofs.YtiafeniflkikeaaGreat
