/-
  SfFail: Chapter 14: what a failure leaves of one file.
  PfMath: Directories as maps: names rising; an act of the directory; what stands at each name.
  SetL: Own lists of elements of several cells: an element set whole, the list made shorter.
-/
import Derived.Test.YtmcbjcbnckpfkaaPn09
import Derived.Test.YtmcbjcbnckpfkaaPn08
import Derived.Lib.Hide
import Derived.Test.YtmcbjcbnckpfkaaPn01
namespace Go.Proofs.Ytmcbjcbnckpfkaa.Sf
open Go.RowKit
set_option linter.unusedVariables false

theorem took_le (l : List Int) (n : Nat) : took l (n + 1) ≤ n := by
  cases l with
  | nil => exact Nat.zero_le _
  | cons x r =>
    show left x (n + 1) ≤ n
    unfold left
    have h : (x % 18446744073709551616).toNat % (n + 1) < n + 1 := Nat.mod_lt _ (by omega)
    omega
/-- What is left of a file: it behind some of its acts, and perhaps the first bytes of one more. -/
theorem kept1_cases (f : File) (l : List Int) :
    (∃ k, k ≤ f.row.length ∧ (kept1 f l).1 = bytes f k) ∨
    (∃ k a m, f.row[k]? = some a ∧ a.cut = false ∧ m ≤ a.b.length ∧ (kept1 f l).1 = torn (bytes f k) a m) := by
  have hk := took_le l f.row.length
  unfold kept1
  generalize took l (f.row.length + 1) = k at hk ⊢
  cases hr : f.row[k]? with
  | none => exact .inl ⟨k, hk, rfl⟩
  | some a =>
    cases hc : a.cut with
    | true => exact .inl ⟨k, hk, by simp [hc]⟩
    | false => exact .inr ⟨k, a, took (l.drop 1) (a.b.length + 1), hr, hc, took_le _ _, by simp [hc]⟩
theorem kept1_none (s : List Nat) (l : List Int) : (kept1 ⟨s, []⟩ l).1 = s := by
  rcases kept1_cases ⟨s, []⟩ l with ⟨k, hk, h⟩ | ⟨k, a, m, h, _⟩
  · rw [h]; simp [bytes]
  · simp at h
theorem kept_len (t : St) : ∀ (d : Dir) (l : List Int), (kept t d l).length = d.length
  | [], _ => rfl
  | e :: d, l => by rw [kept, List.length_cons, kept_len t d, List.length_cons]
theorem kept_at (t : St) : ∀ (d : Dir) (l : List Int) (i : Nat) (e : ByteArray × Nat), d[i]? = some e → ∃ l', (kept t d l)[i]? = some (kept1 (fileAt t e.2) l').1
  | [], _, i, e, h => by simp at h
  | x :: d, l, 0, e, h => by
    simp at h
    subst h
    exact ⟨l, by rw [kept]; rfl⟩
  | x :: d, l, i + 1, e, h => by
    rw [List.getElem?_cons_succ] at h
    obtain ⟨l', h'⟩ := kept_at t d (kept1 (fileAt t x.2) l).2 i e h
    exact ⟨l', by rw [kept, List.getElem?_cons_succ]; exact h'⟩
/-- A name's place in a directory. -/
theorem find_at {d : Dir} {s : ByteArray} {m : Nat} (h : find d s = some m) : ∃ i : Nat, d[i]? = some (s, m) ∧ find (numbered d) s = some i := by
  have key : ∀ (d : Dir) (j : Nat), find d s = some m → ∃ i : Nat, d[i]? = some (s, m) ∧ find (d.mapIdx (fun i e => (e.1, i + j))) s = some (i + j) := by
    intro d
    induction d with
    | nil => intro j h; simp [find] at h
    | cons x d ih =>
      intro j h
      by_cases hx : x.1 = s
      · refine ⟨0, ?_, ?_⟩
        · unfold find at h
          rw [List.find?_cons_of_pos (by simpa using hx)] at h
          simp at h
          obtain ⟨a, b⟩ := x
          simp only at hx
          simp at h
          rw [← hx, ← h]
          rfl
        · unfold find
          rw [List.mapIdx_cons, List.find?_cons_of_pos (by simpa using hx)]
          rfl
      · have h2 : find d s = some m := by
          unfold find at h ⊢
          rw [List.find?_cons_of_neg (by simpa using hx)] at h
          exact h
        obtain ⟨i, h3, h4⟩ := ih (j + 1) h2
        refine ⟨i + 1, by simpa using h3, ?_⟩
        unfold find at h4 ⊢
        rw [List.mapIdx_cons, List.find?_cons_of_neg (by simpa using hx)]
        have e : (fun (k : Nat) (e : ByteArray × Nat) => (e.1, k + 1 + j)) = fun k e => (e.1, k + (j + 1)) := by funext k e; congr 1; omega
        rw [e, h4]
        congr 1
        omega
  obtain ⟨i, h1, h2⟩ := key d 0 h
  exact ⟨i, h1, by unfold numbered; simpa using h2⟩
/-- What is read of a file behind a failure. -/
theorem fail_read {t : St} {l : List Int} {s : ByteArray} {m : Nat} (h : find (dirOf t l) s = some m) (n : Int) (hn : 0 ≤ n) :
    ∃ l', read (fail t l) s 0 n = (((kept1 (fileAt t m) l').1).take n.toNat, 0) := by
  obtain ⟨i, hi, hf⟩ := find_at h
  obtain ⟨l', hl⟩ := kept_at t (dirOf t l) (l.drop 1) i _ hi
  have hg : get (fail t l) s = (i, 0) := by
    unfold get fail
    simp only [Bool.false_eq_true, if_false]
    rw [hf]
  have hfile : fileAt (fail t l) i = ⟨(kept1 (fileAt t m) l').1, []⟩ := by
    unfold fileAt fail
    simp only
    rw [List.getD_eq_getElem?_getD, List.getElem?_map, hl]
    rfl
  refine ⟨l', ?_⟩
  unfold read
  rw [hg, if_neg (by simp), if_neg (by omega), hfile]
  rfl
theorem dirOf_mem (t : St) (l : List Int) : dirOf t l = t.sure ∨ dirOf t l ∈ t.row := by
  unfold dirOf dirAt
  have hk := took_le l t.row.length
  generalize took l (t.row.length + 1) = k at hk ⊢
  split
  · exact .inl rfl
  · right
    rw [List.getD_eq_getElem?_getD, List.getElem?_eq_getElem (by omega)]
    exact List.getElem_mem _
theorem dirOf_sure {t : St} (h : t.row = []) (l : List Int) : dirOf t l = t.sure := by
  rcases dirOf_mem t l with h1 | h1
  · exact h1
  · rw [h] at h1; cases h1

/-- What a failure leaves is sure: another one leaves all of it. -/
theorem numbered_twice (d : Dir) : numbered (numbered d) = numbered d := by
  unfold numbered
  rw [List.mapIdx_mapIdx]
  rfl
theorem fail_fail (t : St) (l m : List Int) : fail (fail t l) m = fail t l := by
  have hd : dirOf (fail t l) m = numbered (dirOf t l) := dirOf_sure rfl m
  have hk : (kept (fail t l) (numbered (dirOf t l)) (m.drop 1)).map (fun b => (⟨b, []⟩ : File)) = (fail t l).files := by
    apply List.ext_getElem?
    intro i
    have hlen : (kept t (dirOf t l) (l.drop 1)).length = (dirOf t l).length := kept_len _ _ _
    by_cases hi : i < (dirOf t l).length
    · have hn : (numbered (dirOf t l))[i]? = some ((dirOf t l)[i].1, i) := by
        unfold numbered
        rw [List.getElem?_mapIdx, List.getElem?_eq_getElem hi]
        rfl
      obtain ⟨l', e⟩ := kept_at (fail t l) _ (m.drop 1) i _ hn
      rw [List.getElem?_map, e]
      have hf : (fail t l).files[i]? = some ⟨(kept t (dirOf t l) (l.drop 1))[i]'(by omega), []⟩ := by
        show ((kept t (dirOf t l) (l.drop 1)).map _)[i]? = _
        rw [List.getElem?_map, List.getElem?_eq_getElem (by omega)]
        rfl
      have hfa : fileAt (fail t l) i = ⟨(kept t (dirOf t l) (l.drop 1))[i]'(by omega), []⟩ := by
        unfold fileAt
        rw [List.getD_eq_getElem?_getD, hf]
        rfl
      simp only
      rw [hf, hfa, kept1_none]
      rfl
    · have h1 : (numbered (dirOf t l)).length = (dirOf t l).length := by simp [numbered]
      rw [List.getElem?_eq_none (by rw [List.length_map, kept_len, h1]; omega), List.getElem?_eq_none (by show ((kept t (dirOf t l) (l.drop 1)).map _).length ≤ i; rw [List.length_map]; omega)]
  show (⟨_, _, _, _, _, _, _, _⟩ : St) = _
  rw [hd, hk, numbered_twice]
  rfl

/-! ### Names that are left alone -/
theorem find_with {d : Dir} {s u : ByteArray} {n : Nat} (h : s ≠ u) : find (with_ d s n) u = find d u := by
  unfold with_ find
  conv => rhs; rw [← List.take_append_drop (ahead d s) d]
  rw [List.find?_append, List.find?_append, List.find?_cons_of_neg (by simpa using h)]
theorem find_without {d : Dir} {s u : ByteArray} (h : s ≠ u) : find (without d s) u = find d u := by
  unfold without find
  rw [List.find?_filter]
  congr 1
  congr 1
  funext e
  by_cases he : e.1 = u
  · subst he; simp [Ne.symm h]
  · simp [he]
theorem find_with_self (d : Dir) (s : ByteArray) (n : Nat) (h : find d s = none) : find (with_ d s n) s = some n := by
  unfold with_ find
  have h1 := find_none h
  rw [List.find?_append, List.find?_eq_none.2 (fun e he => by simpa using h1 e (List.mem_of_mem_take he)), List.find?_cons_of_pos (by simp)]
  rfl
theorem find_without_self (d : Dir) (s : ByteArray) : find (without d s) s = none := by
  unfold find
  rw [Option.map_eq_none_iff, List.find?_eq_none]
  intro e he
  have := (mem_without.1 he).2
  simpa using this
end Go.Proofs.Ytmcbjcbnckpfkaa.Sf
namespace Go.Proofs.Ytmcbjcbnckpfkaa
open Go.RowKit
set_option linter.unusedVariables false
theorem bless_eq : ∀ (x y : List UInt8), Op.bytesLess x y = decide (x < y)
  | [], [] => by simp [Op.bytesLess]
  | _ :: _, [] => by simp [Op.bytesLess]
  | [], _ :: _ => by simp [Op.bytesLess]
  | a :: x, b :: y => by
    rw [Op.bytesLess, bless_eq x y]
    simp only [List.cons_lt_cons_iff]
    by_cases h1 : a < b <;> by_cases h2 : a = b <;> by_cases h3 : x < y <;> simp [h1, h2, h3]
namespace Sf
/-- Names rise. -/
structure OkDir (d : Dir) : Prop where
  rise : d.Pairwise (fun a b => a.1.toList < b.1.toList)
  name : ∀ e ∈ d, isName e.1 = true
theorem OkDir.nil : OkDir [] := ⟨List.Pairwise.nil, by simp⟩
theorem OkDir.nodup {d : Dir} (h : OkDir d) : (d.map (·.1)).Nodup := by
  rw [List.nodup_iff_pairwise_ne, List.pairwise_map]
  exact List.Pairwise.imp (fun {a b} hab e => by rw [e] at hab; exact List.lt_irrefl _ hab) h.rise
theorem name_size {s : ByteArray} (h : isName s = true) : 1 ≤ s.size ∧ s.size ≤ 32 := by
  unfold isName at h
  simp at h
  exact ⟨h.1.2, h.2⟩
theorem name_max {s : ByteArray} (h : isName s = true) : s.size ≤ maxLen := by have := name_size h; simp only [maxLen]; omega
theorem name_ne {s : ByteArray} (h : isName s = true) : s ≠ ByteArray.empty := fun e => by
  have := name_size h
  rw [e] at this
  simp at this
theorem OkDir.without {d : Dir} (h : OkDir d) (s : ByteArray) : OkDir (without d s) := ⟨h.rise.sublist (without_sub d s), fun e he => h.name e ((without_sub d s).subset he)⟩
theorem OkDir.find {d : Dir} (h : OkDir d) {s : ByteArray} {n : Nat} : find d s = some n ↔ (s, n) ∈ d := by
  refine ⟨find_mem, fun hm => ?_⟩
  cases hf : Sf.find d s with
  | none => exact absurd rfl (find_none hf _ hm)
  | some m =>
    have hm2 := find_mem hf
    have hn := h.nodup
    congr 1
    clear hf h
    induction d with
    | nil => cases hm
    | cons x d ih =>
      rw [List.map_cons, List.nodup_cons] at hn
      rcases List.mem_cons.1 hm with h1 | h1
      · rcases List.mem_cons.1 hm2 with h2 | h2
        · rw [← h1] at h2; exact (congrArg Prod.snd h2)
        · exact absurd (List.mem_map.2 ⟨_, h2, by rw [← h1]⟩) hn.1
      · rcases List.mem_cons.1 hm2 with h2 | h2
        · exact absurd (List.mem_map.2 ⟨_, h1, by rw [← h2]⟩) hn.1
        · exact ih h1 h2 hn.2
theorem ahead_split (d : Dir) (s : ByteArray) : d.take (ahead d s) = d.takeWhile (fun e => Op.bytesLess e.1.toList s.toList) ∧ d.drop (ahead d s) = d.dropWhile (fun e => Op.bytesLess e.1.toList s.toList) := by
  unfold ahead
  induction d with
  | nil => simp
  | cons x d ih =>
    by_cases hx : Op.bytesLess x.1.toList s.toList = true
    · simp only [List.takeWhile_cons, List.dropWhile_cons, hx, if_true, List.length_cons, List.take_succ_cons, List.drop_succ_cons, ih.1, ih.2, and_self]
    · simp only [List.takeWhile_cons, List.dropWhile_cons, hx, Bool.false_eq_true, if_false, List.length_nil, List.take_zero, List.drop_zero, and_self]
theorem toList_inj {a b : ByteArray} (h : a.toList = b.toList) : a = b := by
  rw [ByteArray.toList_eq, ByteArray.toList_eq] at h
  obtain ⟨a⟩ := a
  obtain ⟨b⟩ := b
  simp only at h
  rw [Array.toList_inj.1 h]
theorem OkDir.with_ {d : Dir} (h : OkDir d) {s : ByteArray} (hs : isName s = true) (hn : Sf.find d s = none) (n : Nat) : OkDir (with_ d s n) := by
  refine ⟨?_, fun e he => ?_⟩
  · unfold Sf.with_
    obtain ⟨e1, e2⟩ := ahead_split d s
    rw [e1, e2]
    have hall : d.takeWhile (fun e => Op.bytesLess e.1.toList s.toList) ++ d.dropWhile (fun e => Op.bytesLess e.1.toList s.toList) = d := List.takeWhile_append_dropWhile
    have hr := h.rise
    rw [← hall, List.pairwise_append] at hr
    have hlt : ∀ e ∈ d.takeWhile (fun e => Op.bytesLess e.1.toList s.toList), e.1.toList < s.toList := fun e he => by
      have := (List.all_eq_true.1 (List.all_takeWhile (p := fun e : ByteArray × Nat => Op.bytesLess e.1.toList s.toList) (l := d))) e he
      simp only [bless_eq] at this
      simpa using this
    have hgt : ∀ e ∈ d.dropWhile (fun e => Op.bytesLess e.1.toList s.toList), s.toList < e.1.toList := by
      intro e he
      cases hd : d.dropWhile (fun e => Op.bytesLess e.1.toList s.toList) with
      | nil => rw [hd] at he; cases he
      | cons x r =>
        have hx : ¬ Op.bytesLess x.1.toList s.toList = true := by
          have := List.head?_dropWhile_not (fun e : ByteArray × Nat => Op.bytesLess e.1.toList s.toList) d
          rw [hd] at this
          simpa using this
        have hxm : x ∈ d := by rw [← hall, hd]; simp
        have hxs : x.1 ≠ s := find_none hn x hxm
        rw [bless_eq, decide_eq_true_eq] at hx
        have hsx : s.toList < x.1.toList := by
          apply Classical.byContradiction
          intro h2
          exact hxs (toList_inj (List.le_antisymm (List.not_lt.1 h2) (List.not_lt.1 hx)))
        rw [hd] at he
        rcases List.mem_cons.1 he with rfl | he
        · exact hsx
        · have hp := hr.2.1
          rw [hd] at hp
          exact List.lt_trans hsx ((List.pairwise_cons.1 hp).1 e he)
    rw [List.pairwise_append]
    refine ⟨hr.1, List.pairwise_cons.2 ⟨fun e he => hgt e he, hr.2.1⟩, fun a ha b hb => ?_⟩
    rcases List.mem_cons.1 hb with rfl | hb
    · exact hlt a ha
    · exact hr.2.2 a ha b hb
  · rcases mem_with.1 he with rfl | he
    · exact hs
    · exact h.name e he
/-- An act of the directory. -/
def doN (d : Dir) (a : RawN) : Dir := if a.come = ByteArray.empty then without d a.gone else with_ (without (without d a.gone) a.come) a.come a.num
theorem find_without_any (d : Dir) (s u : ByteArray) : find (without d s) u = if u = s then none else find d u := by
  by_cases e : u = s
  · subst e; rw [if_pos rfl]; exact find_without_self d u
  · rw [if_neg e]; exact find_without (Ne.symm e)
theorem find_doN (d : Dir) (a : RawN) (u : ByteArray) : find (doN d a) u = if a.come ≠ ByteArray.empty ∧ u = a.come then some a.num else if u = a.gone then none else find d u := by
  unfold doN
  by_cases h : a.come = ByteArray.empty
  · rw [if_pos h, if_neg (fun h2 => h2.1 h)]
    exact find_without_any d _ u
  · rw [if_neg h]
    by_cases h2 : u = a.come
    · rw [if_pos ⟨h, h2⟩, h2]
      exact find_with_self _ _ _ (find_without_self _ _)
    · rw [if_neg (fun h3 => h2 h3.2), find_with (Ne.symm h2), find_without (Ne.symm h2)]
      exact find_without_any d _ u
theorem OkDir.doN {d : Dir} (h : OkDir d) {a : RawN} (ha : a.come = ByteArray.empty ∨ isName a.come = true) : OkDir (doN d a) := by
  unfold Sf.doN
  split
  · exact h.without _
  · rename_i hc
    exact ((h.without _).without _).with_ (ha.resolve_left hc) (find_without_self _ _) _
theorem without_none {d : Dir} {s : ByteArray} (h : ∀ e ∈ d, e.1 ≠ s) : without d s = d := by
  unfold without
  rw [List.filter_eq_self]
  intro e he
  simpa using h e he
theorem create_doN {d : Dir} (h : OkDir d) {s : ByteArray} (hs : isName s = true) (hn : find d s = none) (n : Nat) : doN d ⟨ByteArray.empty, s, n⟩ = with_ d s n := by
  unfold doN
  rw [if_neg (name_ne hs)]
  simp only
  rw [without_none (fun e he => name_ne (h.name e he)), without_none (find_none hn)]
theorem mem_doN {d : Dir} {a : RawN} {e : ByteArray × Nat} (h : e ∈ doN d a) : e ∈ d ∨ (a.come ≠ ByteArray.empty ∧ e = (a.come, a.num)) := by
  unfold doN at h
  split at h
  · exact .inl ((without_sub _ _).subset h)
  · rename_i hc
    rcases mem_with.1 h with h | h
    · exact .inr ⟨hc, h⟩
    · exact .inl ((without_sub _ _).subset ((without_sub _ _).subset h))
theorem doN_len (d : Dir) (a : RawN) : (doN d a).length ≤ d.length + 1 := by
  unfold doN
  split
  · have := (without_sub d a.gone).length_le; omega
  · have h1 := (without_sub d a.gone).length_le
    have h2 := (without_sub (without d a.gone) a.come).length_le
    rw [(with_perm _ _ _).length_eq, List.length_cons]
    omega
/-- The directories behind each of some acts. -/
def dirs (d : Dir) : List RawN → List Dir
  | [] => []
  | a :: r => doN d a :: dirs (doN d a) r
theorem dirs_len (d : Dir) (l : List RawN) : (dirs d l).length = l.length := by
  induction l generalizing d with
  | nil => rfl
  | cons a r ih => simp [dirs, ih]
theorem dirs_snoc (d : Dir) (l : List RawN) (a : RawN) : dirs d (l ++ [a]) = dirs d l ++ [doN (l.foldl doN d) a] := by
  induction l generalizing d with
  | nil => rfl
  | cons x r ih => simp [dirs, ih]
theorem dirs_at (d : Dir) (l : List RawN) (k : Nat) (hk : k < l.length) : (dirs d l)[k]? = some ((l.take (k + 1)).foldl doN d) := by
  induction l generalizing d k with
  | nil => simp at hk
  | cons x r ih =>
    cases k with
    | zero => simp [dirs]
    | succ k =>
      simp at hk
      simp [dirs, ih (doN d x) k hk]
theorem dirs_mem {d : Dir} {l : List RawN} {e : Dir} (h : e ∈ dirs d l) : ∃ k, e = (l.take k).foldl doN d := by
  obtain ⟨k, hk, rfl⟩ := List.mem_iff_getElem.1 h
  rw [dirs_len] at hk
  refine ⟨k + 1, ?_⟩
  have := dirs_at d l k hk
  rw [List.getElem?_eq_getElem (by rw [dirs_len]; exact hk)] at this
  exact Option.some.inj this
/-- A directory as a map. -/
def dirF (d : Dir) (s : ByteArray) : Option Int := Option.map (fun n : Nat => (n : Int)) (find d s)
theorem dirF_doN (d : Dir) (a : RawN) : dirF (doN d a) = fun u => if a.come ≠ ByteArray.empty ∧ u = a.come then some (a.num : Int) else if u = a.gone then none else dirF d u := by
  funext u
  unfold dirF
  rw [find_doN]
  split
  · rfl
  · split <;> rfl
def dirL (d : Dir) : List (ByteArray × Int) := d.map fun e => (e.1, (e.2 : Int))
theorem dirF_iff {d : Dir} (h : OkDir d) (s : ByteArray) (y : Int) : dirF d s = some y ↔ (s, y) ∈ dirL d := by
  unfold dirF dirL
  rw [Option.map_eq_some_iff, List.mem_map]
  constructor
  · rintro ⟨n, hn, rfl⟩
    exact ⟨(s, n), h.find.1 hn, rfl⟩
  · rintro ⟨e, he, heq⟩
    obtain ⟨rfl, rfl⟩ := Prod.mk.inj heq
    exact ⟨e.2, h.find.2 he, rfl⟩
theorem dirL_keys (d : Dir) : (dirL d).map (·.1) = d.map (·.1) := by unfold dirL; rw [List.map_map]; rfl
end Sf
theorem fM_ok : MpOk fM where
  only := fun v kl h => by
    obtain ⟨x, h1, h2, h3⟩ := Maps.keyOf_int_inv Try.underlying3 h
    exact ⟨x, h3, h1, h2⟩
  elem := fun v y h => readX_any v y h
  dinj := fun a b h => datX_inj h
theorem dM_ok : MpOk dM where
  only := fun v kl h => by
    obtain ⟨s, h1, h2, h3⟩ := WideMaps.string_of_keyOf Try.underlying9 h
    exact ⟨s, h3, h1, h2⟩
  elem := fun v y h => by
    cases v with
    | int q a =>
      simp only [dM, readInt] at h
      split at h
      · rename_i e
        subst e
        exact ⟨a, rfl, (Option.some.inj h).symm⟩
      · cases h
    | _ => simp [dM, readInt] at h
  dinj := fun a b h => by simpa [dM] using h
/-- How many names a directory has. -/
theorem dir_len {w : World} {b n : Nat} {d : Sf.Dir} (h : IsMp dM w b n (Sf.dirF d)) (hd : Sf.OkDir d) (ty : TypeId) : (Builtin.len_ #[47] ty #[.map (some b)]).run Try.prog w = .ok (.int .i64 (d.length : Nat)) w := by
  have := h.size_ dM_ok (Sf.dirL d) (by rw [Sf.dirL_keys]; exact hd.nodup) (fun e he => by
    obtain ⟨x, hx, rfl⟩ := List.mem_map.1 he
    exact Sf.name_max (hd.name x hx)) (fun x _ y => Sf.dirF_iff hd x y) ty
  rw [Sf.dirL, List.length_map] at this
  exact this
end Go.Proofs.Ytmcbjcbnckpfkaa
namespace Go.Proofs.Ytmcbjcbnckpfkaa
open Go.RowKit
set_option linter.unusedVariables false

/-- Cells set one behind the other, from k on. -/
def setAll (w : World) (g k : Nat) : List Value → World
  | [] => w
  | u :: r => setAll (w.setCell ⟨g, k, none⟩ u) g (k + 1) r
def putAll (C : List Value) (k : Nat) : List Value → List Value
  | [] => C
  | u :: r => putAll (C.set k u) (k + 1) r
theorem setAll_heap {g : Nat} {e : TypeId} (us : List Value) : ∀ {w : World} {k : Nat} {C : List Value}, w.heap[g]? = some (.cells C.toArray e (0, 0)) →
    (setAll w g k us).heap[g]? = some (.cells (putAll C k us).toArray e (0, 0)) := by
  induction us with
  | nil => exact fun h => h
  | cons u r ih =>
    intro w k C h
    refine ih ?_
    rw [heap_setCell_same w g k _ _ u h]
    simp
theorem setAll_grown {g : Nat} (us : List Value) : ∀ (w : World) (k : Nat), w.grownBy (setAll w g k us) (some g) := by
  induction us with
  | nil => exact fun w k => ⟨rfl, rfl, rfl, Nat.le_refl _, fun _ _ _ => rfl⟩
  | cons u r ih =>
    intro w k
    obtain ⟨h1, h2, h3, h4, h5⟩ := ih (w.setCell ⟨g, k, none⟩ u) (k + 1)
    refine ⟨h1, h2, h3, Nat.le_trans (show w.heap.size ≤ (w.setCell ⟨g, k, none⟩ u).heap.size by simp) h4, fun i hi hne => ?_⟩
    exact (h5 i (by simpa using hi) hne).trans (heap_setCell_other w ⟨g, k, none⟩ i u (fun e => hne (by simp [e])))
theorem putAll_mid (c : List Value) (us : List Value) : ∀ (a b : List Value), us.length = b.length → putAll (a ++ b ++ c) a.length us = a ++ us ++ c := by
  induction us with
  | nil =>
    intro a b h
    have hb : b = [] := List.eq_nil_of_length_eq_zero h.symm
    subst hb
    rfl
  | cons u r ih =>
    intro a b h
    cases b with
    | nil => simp at h
    | cons y b =>
      have h' : r.length = b.length := by simpa using h
      have e : (a ++ y :: b ++ c).set a.length u = (a ++ [u]) ++ b ++ c := by simp
      have := ih (a ++ [u]) b h'
      rw [← e] at this
      rw [List.length_append, List.length_singleton] at this
      show putAll ((a ++ y :: b ++ c).set a.length u) (a.length + 1) r = _
      rw [this]
      simp

section
variable {P : Program} {α : Type} {K : El P α} {w w' : World} {base B : Nat} {v : Value} {l : List α}
theorem flat_put {l : List α} {k : Nat} (hk : k < l.length) (x : α) : putAll (K.flat l) (k * K.size) (K.enc x) = K.flat (l.set k x) := by
  have e : l = l.take k ++ l[k] :: l.drop (k + 1) := by simp
  have hl : (K.flat (l.take k)).length = k * K.size := by rw [flat_len, List.length_take, Nat.min_eq_left (by omega)]
  have e1 : K.flat l = K.flat (l.take k) ++ K.enc l[k] ++ K.flat (l.drop (k + 1)) := by
    conv => lhs; rw [e]
    rw [flat_app, flat_cons, List.append_assoc]
  have e2 : K.flat (l.set k x) = K.flat (l.take k) ++ K.enc x ++ K.flat (l.drop (k + 1)) := by
    rw [List.set_eq_take_append_cons_drop, if_pos hk, flat_app, flat_cons, List.append_assoc]
  rw [e1, e2, ← hl]
  exact putAll_mid _ _ _ _ (by rw [K.len, K.len])
/-- One element is set, all its cells. -/
theorem OwnL.setAll_ {g c n : Nat} (h : OwnL K w base (.slice (some ⟨g, 0, none⟩) n c) l) {j : Nat} (hj : j < l.length) {x : α} (hx : K.ok x) :
    OwnL K (setAll w g (j * K.size) (K.enc x)) base (.slice (some ⟨g, 0, none⟩) n c) (l.set j x) ∧ w.grownBy (setAll w g (j * K.size) (K.enc x)) (some g) := by
  rcases h.2 with ⟨e, rfl⟩ | ⟨g', s, e, hb, hs, hm, hh⟩
  · cases e
  · injection e with e1 e2 e3
    injection e1 with e1
    injection e1 with e1
    subst e1 e2 e3
    refine ⟨⟨fun y hy => ?_, .inr ⟨g, s, by rw [List.length_set], hb, hs, by rw [List.length_set]; exact hm, ?_⟩⟩, setAll_grown _ _ _⟩
    · rcases List.mem_or_eq_of_mem_set hy with h3 | rfl
      · exact h.1 y h3
      · exact hx
    · rw [setAll_heap (K.enc x) hh, ← List.set_append_left _ _ hj, flat_put (by simp; omega) x]
/-- The same slice, shorter: what stood behind is spare room. -/
theorem OwnL.take_ {g c n : Nat} (h : OwnL K w base (.slice (some ⟨g, 0, none⟩) n c) l) {k : Nat} (hk : k ≤ l.length) : OwnL K w base (.slice (some ⟨g, 0, none⟩) k c) (l.take k) := by
  rcases h.2 with ⟨e, rfl⟩ | ⟨g', s, e, hb, hs, hm, hh⟩
  · cases e
  · injection e with e1 e2 e3
    injection e1 with e1
    injection e1 with e1
    subst e1 e2 e3
    have hl : (l.take k).length = k := by rw [List.length_take, Nat.min_eq_left hk]
    have hl2 : (l.take k).length + (l.drop k ++ s).length = l.length + s.length := by rw [hl, List.length_append, List.length_drop]; omega
    refine ⟨fun y hy => h.1 y (List.mem_of_mem_take hy), .inr ⟨g, l.drop k ++ s, by rw [hl2, hl], hb, fun y hy => ?_, by rw [hl2]; exact hm, ?_⟩⟩
    · rcases List.mem_append.1 hy with hy | hy
      · exact h.1 y (List.mem_of_mem_drop hy)
      · exact hs y hy
    · rw [hh, ← List.append_assoc, List.take_append_drop]
end
end Go.Proofs.Ytmcbjcbnckpfkaa
