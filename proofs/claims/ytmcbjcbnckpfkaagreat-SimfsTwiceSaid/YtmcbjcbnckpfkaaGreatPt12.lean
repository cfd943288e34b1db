/-
  PfKind: simfs: the kinds of what a disk has in memory: acts of a file, of the directory, the map of files, the maps that are directories.
  SfFail: Chapter 14: what a failure leaves of one file.
  PfMath: Directories as maps: names rising; an act of the directory; what stands at each name.
-/
import Derived.Test.YtmcbjcbnckpfkaaGreatPt11
import Derived.Test.YtmcbjcbnckpfkaaGreatPt09
import Derived.Maps.RangeWalk
import Derived.Test.YtmcbjcbnckpfkaaGreatPt10
import Derived.Lib.Hide
namespace Go.Proofs.YtmcbjcbnckpfkaaGreat
open Go.RowKit Go.Maps
set_option linter.unusedVariables false
/-- An act of a file, as it lies in memory. -/
structure RawC where
  at_ : Nat
  sl : Sl
  cut : Bool
/-- An act of the directory. -/
structure RawN where
  gone : ByteArray
  come : ByteArray
  num : Nat
/-- A file. -/
structure RawX where
  sure : Sl
  row : Sl
  now : Sl
def encC (x : RawC) : List Value := [.int .i64 (x.at_ : Nat), .slice x.sl.A x.sl.n x.sl.c, .bool x.cut]
def cK : El Tryz.prog RawC where
  e := 113
  s := 85
  size := 3
  bytes := 40
  zero := .agg #[.int .i64 0, .slice none 0 0, .bool false]
  z := ⟨0, ⟨none, 0, 0⟩, false⟩
  enc := encC
  ok := fun x => x.at_ ≤ 1048576
  len := fun _ => rfl
  one := fun x u hu => by simp [encC] at hu; rcases hu with rfl | rfl | rfl <;> rfl
  okz := by simp
  encz := rfl
  pos := by decide
  under := Tryz.underlying85
  info := by kernel_rfl
def encN (x : RawN) : List Value := [.string x.gone, .string x.come, .int .i64 (x.num : Nat)]
def nK : El Tryz.prog RawN where
  e := 83
  s := 78
  size := 3
  bytes := 40
  zero := .agg #[.string ByteArray.empty, .string ByteArray.empty, .int .i64 0]
  z := ⟨ByteArray.empty, ByteArray.empty, 0⟩
  enc := encN
  ok := fun x => x.gone.size ≤ maxLen ∧ x.come.size ≤ maxLen ∧ x.num < 2199023255552
  len := fun _ => rfl
  one := fun x u hu => by simp [encN] at hu; rcases hu with rfl | rfl | rfl <;> rfl
  okz := by simp [maxLen]
  encz := rfl
  pos := by decide
  under := Tryz.underlying78
  info := by kernel_rfl
/-! A file's value. -/
def xV (x : RawX) : Value := .agg #[slV x.sure, slV x.row, slV x.now]
def datA : Option Addr → DataW Unit
  | none => .nil
  | some a => .agg ([.lit (.int .i64 a.block), .lit (.int .i64 a.off)] ++ (match a.spot with | none => [] | some k => [.lit (.int .i64 k)]))
theorem datA_inj {a b : Option Addr} (h : datA a = datA b) : a = b := by
  cases a with
  | none => cases b with
    | none => rfl
    | some b => cases h
  | some a => cases b with
    | none => cases h
    | some b =>
      obtain ⟨a1, a2, a3⟩ := a
      obtain ⟨b1, b2, b3⟩ := b
      cases a3 <;> cases b3 <;> simp [datA] at h ⊢ <;> omega
def datS (u : Sl) : DataW Unit := .agg [datA u.A, .lit (.int .i64 u.n), .lit (.int .i64 u.c)]
theorem datS_inj {a b : Sl} (h : datS a = datS b) : a = b := by
  obtain ⟨a1, a2, a3⟩ := a
  obtain ⟨b1, b2, b3⟩ := b
  simp [datS] at h
  obtain ⟨h1, h2, h3⟩ := h
  rw [datA_inj h1]
  simp only [Sl.mk.injEq, true_and]
  omega
def datX (x : RawX) : DataW Unit := .agg [datS x.sure, datS x.row, datS x.now]
def readX : Value → Option (DataW Unit × List MemPlace)
  | .agg cs => match cs.toList with
    | [.slice A n c, .slice A2 n2 c2, .slice A3 n3 c3] => some (datX ⟨⟨A, n, c⟩, ⟨A2, n2, c2⟩, ⟨A3, n3, c3⟩⟩, [])
    | _ => none
  | _ => none
theorem readX_val (x : RawX) : readX (xV x) = some (datX x, []) := rfl
theorem readX_inv (v : Value) (x : RawX) (ps : List MemPlace) (h : readX v = some (datX x, ps)) : v = xV x := by
  unfold readX at h
  split at h
  · rename_i cs
    split at h
    · rename_i A n c A2 n2 c2 A3 n3 c3 hc
      simp only [Option.some.injEq, Prod.mk.injEq] at h
      have h1 := h.1
      simp [datX] at h1
      obtain ⟨e1, e2, e3⟩ := h1
      have : cs = #[.slice A n c, .slice A2 n2 c2, .slice A3 n3 c3] := by apply Array.ext'; rw [hc]
      rw [this]
      obtain ⟨y1, y2, y3⟩ := x
      simp only [] at e1 e2 e3
      rw [← datS_inj e1, ← datS_inj e2, ← datS_inj e3]
      rfl
    · cases h
  · cases h
/-- What reads as an element is one. -/
theorem readX_any (v : Value) (y : DataW Unit × List MemPlace) (h : readX v = some y) : ∃ x, v = xV x ∧ y = (datX x, []) := by
  unfold readX at h
  split at h
  · rename_i cs
    split at h
    · rename_i A n c A2 n2 c2 A3 n3 c3 hc
      have : cs = #[.slice A n c, .slice A2 n2 c2, .slice A3 n3 c3] := by apply Array.ext'; rw [hc]
      rw [this]
      exact ⟨⟨⟨A, n, c⟩, ⟨A2, n2, c2⟩, ⟨A3, n3, c3⟩⟩, rfl, (Option.some.inj h).symm⟩
    · cases h
  · cases h
theorem datX_inj {a b : RawX} (h : datX a = datX b) : a = b := by
  obtain ⟨a1, a2, a3⟩ := a
  obtain ⟨b1, b2, b3⟩ := b
  simp [datX] at h
  obtain ⟨h1, h2, h3⟩ := h
  rw [datS_inj h1, datS_inj h2, datS_inj h3]
def x0 : RawX := ⟨⟨none, 0, 0⟩, ⟨none, 0, 0⟩, ⟨none, 0, 0⟩⟩
theorem zeroX (w : World) : (zeroValue 87).run Tryz.prog w = .ok (xV x0) w := by kernel_rfl
/-- The map of files. -/
def fM : MpK Tryz.prog Int RawX where
  t := 77
  k := 3
  e := 87
  key := fun x => .int .i64 x
  lit := fun x => .int .i64 x
  ok := fun x => (Lit.int .i64 x).wf = true
  val := xV
  z := x0
  read := readX
  dat := datX
  keyed := int_keyed Tryz.underlying3
  under := Tryz.underlying77
  law := fun x hx => keyOf_int_mk Tryz.underlying3 hx
  inj := fun x y h => by injection h
  zero := zeroX
  readVal := readX_val
  readInv := fun v y ps h => readX_inv v y ps h
theorem zeroI (w : World) : (zeroValue 3).run Tryz.prog w = .ok (.int .i64 0) w := by kernel_rfl
/-- A directory. -/
def dM : MpK Tryz.prog ByteArray Int where
  t := 75
  k := 9
  e := 3
  key := fun s => .string s
  lit := fun s => .string s.data.toList
  ok := fun s => s.size ≤ maxLen
  val := fun y => .int .i64 y
  z := 0
  read := readInt .i64
  dat := fun y => .lit (.int .i64 y)
  keyed := string_keyed Tryz.underlying9
  under := Tryz.underlying75
  law := fun x hx => WideMaps.keyOf_string_mk Tryz.underlying9 hx
  inj := fun x y h => by injection h
  zero := zeroI
  readVal := readInt_val .i64
  readInv := readInt_inv .i64
end Go.Proofs.YtmcbjcbnckpfkaaGreat
namespace Go.Proofs.YtmcbjcbnckpfkaaGreat.Sf
open Go.RowKit
set_option linter.unusedVariables false

theorem took_le (l : List Int) (n : Nat) : took l (n + 1) ≤ n := by
  cases l with
  | nil => exact Nat.zero_le _
  | cons x r =>
    show left x (n + 1) ≤ n
    unfold left
    have h : (x % 18446744073709551616).toNat % (n + 1) < n + 1 := Nat.mod_lt _ (by omega)
    omega
/-- What is left of a file: it behind some of its acts, and perhaps the first bytes of one more. -/
theorem kept1_cases (f : File) (l : List Int) :
    (∃ k, k ≤ f.row.length ∧ (kept1 f l).1 = bytes f k) ∨
    (∃ k a m, f.row[k]? = some a ∧ a.cut = false ∧ m ≤ a.b.length ∧ (kept1 f l).1 = torn (bytes f k) a m) := by
  have hk := took_le l f.row.length
  unfold kept1
  generalize took l (f.row.length + 1) = k at hk ⊢
  cases hr : f.row[k]? with
  | none => exact .inl ⟨k, hk, rfl⟩
  | some a =>
    cases hc : a.cut with
    | true => exact .inl ⟨k, hk, by simp [hc]⟩
    | false => exact .inr ⟨k, a, took (l.drop 1) (a.b.length + 1), hr, hc, took_le _ _, by simp [hc]⟩
theorem kept1_none (s : List Nat) (l : List Int) : (kept1 ⟨s, []⟩ l).1 = s := by
  rcases kept1_cases ⟨s, []⟩ l with ⟨k, hk, h⟩ | ⟨k, a, m, h, _⟩
  · rw [h]; simp [bytes]
  · simp at h
theorem kept_len (t : St) : ∀ (d : Dir) (l : List Int), (kept t d l).length = d.length
  | [], _ => rfl
  | e :: d, l => by rw [kept, List.length_cons, kept_len t d, List.length_cons]
theorem kept_at (t : St) : ∀ (d : Dir) (l : List Int) (i : Nat) (e : ByteArray × Nat), d[i]? = some e → ∃ l', (kept t d l)[i]? = some (kept1 (fileAt t e.2) l').1
  | [], _, i, e, h => by simp at h
  | x :: d, l, 0, e, h => by
    simp at h
    subst h
    exact ⟨l, by rw [kept]; rfl⟩
  | x :: d, l, i + 1, e, h => by
    rw [List.getElem?_cons_succ] at h
    obtain ⟨l', h'⟩ := kept_at t d (kept1 (fileAt t x.2) l).2 i e h
    exact ⟨l', by rw [kept, List.getElem?_cons_succ]; exact h'⟩
/-- A name's place in a directory. -/
theorem find_at {d : Dir} {s : ByteArray} {m : Nat} (h : find d s = some m) : ∃ i : Nat, d[i]? = some (s, m) ∧ find (numbered d) s = some i := by
  have key : ∀ (d : Dir) (j : Nat), find d s = some m → ∃ i : Nat, d[i]? = some (s, m) ∧ find (d.mapIdx (fun i e => (e.1, i + j))) s = some (i + j) := by
    intro d
    induction d with
    | nil => intro j h; simp [find] at h
    | cons x d ih =>
      intro j h
      by_cases hx : x.1 = s
      · refine ⟨0, ?_, ?_⟩
        · unfold find at h
          rw [List.find?_cons_of_pos (by simpa using hx)] at h
          simp at h
          obtain ⟨a, b⟩ := x
          simp only at hx
          simp at h
          rw [← hx, ← h]
          rfl
        · unfold find
          rw [List.mapIdx_cons, List.find?_cons_of_pos (by simpa using hx)]
          rfl
      · have h2 : find d s = some m := by
          unfold find at h ⊢
          rw [List.find?_cons_of_neg (by simpa using hx)] at h
          exact h
        obtain ⟨i, h3, h4⟩ := ih (j + 1) h2
        refine ⟨i + 1, by simpa using h3, ?_⟩
        unfold find at h4 ⊢
        rw [List.mapIdx_cons, List.find?_cons_of_neg (by simpa using hx)]
        have e : (fun (k : Nat) (e : ByteArray × Nat) => (e.1, k + 1 + j)) = fun k e => (e.1, k + (j + 1)) := by funext k e; congr 1; omega
        rw [e, h4]
        congr 1
        omega
  obtain ⟨i, h1, h2⟩ := key d 0 h
  exact ⟨i, h1, by unfold numbered; simpa using h2⟩
/-- What is read of a file behind a failure. -/
theorem fail_read {t : St} {l : List Int} {s : ByteArray} {m : Nat} (h : find (dirOf t l) s = some m) (n : Int) (hn : 0 ≤ n) :
    ∃ l', read (fail t l) s 0 n = (((kept1 (fileAt t m) l').1).take n.toNat, 0) := by
  obtain ⟨i, hi, hf⟩ := find_at h
  obtain ⟨l', hl⟩ := kept_at t (dirOf t l) (l.drop 1) i _ hi
  have hg : get (fail t l) s = (i, 0) := by
    unfold get fail
    simp only [Bool.false_eq_true, if_false]
    rw [hf]
  have hfile : fileAt (fail t l) i = ⟨(kept1 (fileAt t m) l').1, []⟩ := by
    unfold fileAt fail
    simp only
    rw [List.getD_eq_getElem?_getD, List.getElem?_map, hl]
    rfl
  refine ⟨l', ?_⟩
  unfold read
  rw [hg, if_neg (by simp), if_neg (by omega), hfile]
  rfl
theorem dirOf_mem (t : St) (l : List Int) : dirOf t l = t.sure ∨ dirOf t l ∈ t.row := by
  unfold dirOf dirAt
  have hk := took_le l t.row.length
  generalize took l (t.row.length + 1) = k at hk ⊢
  split
  · exact .inl rfl
  · right
    rw [List.getD_eq_getElem?_getD, List.getElem?_eq_getElem (by omega)]
    exact List.getElem_mem _
theorem dirOf_sure {t : St} (h : t.row = []) (l : List Int) : dirOf t l = t.sure := by
  rcases dirOf_mem t l with h1 | h1
  · exact h1
  · rw [h] at h1; cases h1

/-- What a failure leaves is sure: another one leaves all of it. -/
theorem numbered_twice (d : Dir) : numbered (numbered d) = numbered d := by
  unfold numbered
  rw [List.mapIdx_mapIdx]
  rfl
theorem fail_fail (t : St) (l m : List Int) : fail (fail t l) m = fail t l := by
  have hd : dirOf (fail t l) m = numbered (dirOf t l) := dirOf_sure rfl m
  have hk : (kept (fail t l) (numbered (dirOf t l)) (m.drop 1)).map (fun b => (⟨b, []⟩ : File)) = (fail t l).files := by
    apply List.ext_getElem?
    intro i
    have hlen : (kept t (dirOf t l) (l.drop 1)).length = (dirOf t l).length := kept_len _ _ _
    by_cases hi : i < (dirOf t l).length
    · have hn : (numbered (dirOf t l))[i]? = some ((dirOf t l)[i].1, i) := by
        unfold numbered
        rw [List.getElem?_mapIdx, List.getElem?_eq_getElem hi]
        rfl
      obtain ⟨l', e⟩ := kept_at (fail t l) _ (m.drop 1) i _ hn
      rw [List.getElem?_map, e]
      have hf : (fail t l).files[i]? = some ⟨(kept t (dirOf t l) (l.drop 1))[i]'(by omega), []⟩ := by
        show ((kept t (dirOf t l) (l.drop 1)).map _)[i]? = _
        rw [List.getElem?_map, List.getElem?_eq_getElem (by omega)]
        rfl
      have hfa : fileAt (fail t l) i = ⟨(kept t (dirOf t l) (l.drop 1))[i]'(by omega), []⟩ := by
        unfold fileAt
        rw [List.getD_eq_getElem?_getD, hf]
        rfl
      simp only
      rw [hf, hfa, kept1_none]
      rfl
    · have h1 : (numbered (dirOf t l)).length = (dirOf t l).length := by simp [numbered]
      rw [List.getElem?_eq_none (by rw [List.length_map, kept_len, h1]; omega), List.getElem?_eq_none (by show ((kept t (dirOf t l) (l.drop 1)).map _).length ≤ i; rw [List.length_map]; omega)]
  show (⟨_, _, _, _, _, _, _, _⟩ : St) = _
  rw [hd, hk, numbered_twice]
  rfl

/-! ### Names that are left alone -/
theorem find_with {d : Dir} {s u : ByteArray} {n : Nat} (h : s ≠ u) : find (with_ d s n) u = find d u := by
  unfold with_ find
  conv => rhs; rw [← List.take_append_drop (ahead d s) d]
  rw [List.find?_append, List.find?_append, List.find?_cons_of_neg (by simpa using h)]
theorem find_without {d : Dir} {s u : ByteArray} (h : s ≠ u) : find (without d s) u = find d u := by
  unfold without find
  rw [List.find?_filter]
  congr 1
  congr 1
  funext e
  by_cases he : e.1 = u
  · subst he; simp [Ne.symm h]
  · simp [he]
theorem find_with_self (d : Dir) (s : ByteArray) (n : Nat) (h : find d s = none) : find (with_ d s n) s = some n := by
  unfold with_ find
  have h1 := find_none h
  rw [List.find?_append, List.find?_eq_none.2 (fun e he => by simpa using h1 e (List.mem_of_mem_take he)), List.find?_cons_of_pos (by simp)]
  rfl
theorem find_without_self (d : Dir) (s : ByteArray) : find (without d s) s = none := by
  unfold find
  rw [Option.map_eq_none_iff, List.find?_eq_none]
  intro e he
  have := (mem_without.1 he).2
  simpa using this
end Go.Proofs.YtmcbjcbnckpfkaaGreat.Sf
namespace Go.Proofs.YtmcbjcbnckpfkaaGreat
open Go.RowKit
set_option linter.unusedVariables false
theorem bless_eq : ∀ (x y : List UInt8), Op.bytesLess x y = decide (x < y)
  | [], [] => by simp [Op.bytesLess]
  | _ :: _, [] => by simp [Op.bytesLess]
  | [], _ :: _ => by simp [Op.bytesLess]
  | a :: x, b :: y => by
    rw [Op.bytesLess, bless_eq x y]
    simp only [List.cons_lt_cons_iff]
    by_cases h1 : a < b <;> by_cases h2 : a = b <;> by_cases h3 : x < y <;> simp [h1, h2, h3]
namespace Sf
/-- Names rise. -/
structure OkDir (d : Dir) : Prop where
  rise : d.Pairwise (fun a b => a.1.toList < b.1.toList)
  name : ∀ e ∈ d, isName e.1 = true
theorem OkDir.nil : OkDir [] := ⟨List.Pairwise.nil, by simp⟩
theorem OkDir.nodup {d : Dir} (h : OkDir d) : (d.map (·.1)).Nodup := by
  rw [List.nodup_iff_pairwise_ne, List.pairwise_map]
  exact List.Pairwise.imp (fun {a b} hab e => by rw [e] at hab; exact List.lt_irrefl _ hab) h.rise
theorem name_size {s : ByteArray} (h : isName s = true) : 1 ≤ s.size ∧ s.size ≤ 32 := by
  unfold isName at h
  simp at h
  exact ⟨h.1.2, h.2⟩
theorem name_max {s : ByteArray} (h : isName s = true) : s.size ≤ maxLen := by have := name_size h; simp only [maxLen]; omega
theorem name_ne {s : ByteArray} (h : isName s = true) : s ≠ ByteArray.empty := fun e => by
  have := name_size h
  rw [e] at this
  simp at this
theorem OkDir.without {d : Dir} (h : OkDir d) (s : ByteArray) : OkDir (without d s) := ⟨h.rise.sublist (without_sub d s), fun e he => h.name e ((without_sub d s).subset he)⟩
theorem OkDir.find {d : Dir} (h : OkDir d) {s : ByteArray} {n : Nat} : find d s = some n ↔ (s, n) ∈ d := by
  refine ⟨find_mem, fun hm => ?_⟩
  cases hf : Sf.find d s with
  | none => exact absurd rfl (find_none hf _ hm)
  | some m =>
    have hm2 := find_mem hf
    have hn := h.nodup
    congr 1
    clear hf h
    induction d with
    | nil => cases hm
    | cons x d ih =>
      rw [List.map_cons, List.nodup_cons] at hn
      rcases List.mem_cons.1 hm with h1 | h1
      · rcases List.mem_cons.1 hm2 with h2 | h2
        · rw [← h1] at h2; exact (congrArg Prod.snd h2)
        · exact absurd (List.mem_map.2 ⟨_, h2, by rw [← h1]⟩) hn.1
      · rcases List.mem_cons.1 hm2 with h2 | h2
        · exact absurd (List.mem_map.2 ⟨_, h1, by rw [← h2]⟩) hn.1
        · exact ih h1 h2 hn.2
theorem ahead_split (d : Dir) (s : ByteArray) : d.take (ahead d s) = d.takeWhile (fun e => Op.bytesLess e.1.toList s.toList) ∧ d.drop (ahead d s) = d.dropWhile (fun e => Op.bytesLess e.1.toList s.toList) := by
  unfold ahead
  induction d with
  | nil => simp
  | cons x d ih =>
    by_cases hx : Op.bytesLess x.1.toList s.toList = true
    · simp only [List.takeWhile_cons, List.dropWhile_cons, hx, if_true, List.length_cons, List.take_succ_cons, List.drop_succ_cons, ih.1, ih.2, and_self]
    · simp only [List.takeWhile_cons, List.dropWhile_cons, hx, Bool.false_eq_true, if_false, List.length_nil, List.take_zero, List.drop_zero, and_self]
theorem toList_inj {a b : ByteArray} (h : a.toList = b.toList) : a = b := by
  rw [ByteArray.toList_eq, ByteArray.toList_eq] at h
  obtain ⟨a⟩ := a
  obtain ⟨b⟩ := b
  simp only at h
  rw [Array.toList_inj.1 h]
theorem OkDir.with_ {d : Dir} (h : OkDir d) {s : ByteArray} (hs : isName s = true) (hn : Sf.find d s = none) (n : Nat) : OkDir (with_ d s n) := by
  refine ⟨?_, fun e he => ?_⟩
  · unfold Sf.with_
    obtain ⟨e1, e2⟩ := ahead_split d s
    rw [e1, e2]
    have hall : d.takeWhile (fun e => Op.bytesLess e.1.toList s.toList) ++ d.dropWhile (fun e => Op.bytesLess e.1.toList s.toList) = d := List.takeWhile_append_dropWhile
    have hr := h.rise
    rw [← hall, List.pairwise_append] at hr
    have hlt : ∀ e ∈ d.takeWhile (fun e => Op.bytesLess e.1.toList s.toList), e.1.toList < s.toList := fun e he => by
      have := (List.all_eq_true.1 (List.all_takeWhile (p := fun e : ByteArray × Nat => Op.bytesLess e.1.toList s.toList) (l := d))) e he
      simp only [bless_eq] at this
      simpa using this
    have hgt : ∀ e ∈ d.dropWhile (fun e => Op.bytesLess e.1.toList s.toList), s.toList < e.1.toList := by
      intro e he
      cases hd : d.dropWhile (fun e => Op.bytesLess e.1.toList s.toList) with
      | nil => rw [hd] at he; cases he
      | cons x r =>
        have hx : ¬ Op.bytesLess x.1.toList s.toList = true := by
          have := List.head?_dropWhile_not (fun e : ByteArray × Nat => Op.bytesLess e.1.toList s.toList) d
          rw [hd] at this
          simpa using this
        have hxm : x ∈ d := by rw [← hall, hd]; simp
        have hxs : x.1 ≠ s := find_none hn x hxm
        rw [bless_eq, decide_eq_true_eq] at hx
        have hsx : s.toList < x.1.toList := by
          apply Classical.byContradiction
          intro h2
          exact hxs (toList_inj (List.le_antisymm (List.not_lt.1 h2) (List.not_lt.1 hx)))
        rw [hd] at he
        rcases List.mem_cons.1 he with rfl | he
        · exact hsx
        · have hp := hr.2.1
          rw [hd] at hp
          exact List.lt_trans hsx ((List.pairwise_cons.1 hp).1 e he)
    rw [List.pairwise_append]
    refine ⟨hr.1, List.pairwise_cons.2 ⟨fun e he => hgt e he, hr.2.1⟩, fun a ha b hb => ?_⟩
    rcases List.mem_cons.1 hb with rfl | hb
    · exact hlt a ha
    · exact hr.2.2 a ha b hb
  · rcases mem_with.1 he with rfl | he
    · exact hs
    · exact h.name e he
/-- An act of the directory. -/
def doN (d : Dir) (a : RawN) : Dir := if a.come = ByteArray.empty then without d a.gone else with_ (without (without d a.gone) a.come) a.come a.num
theorem find_without_any (d : Dir) (s u : ByteArray) : find (without d s) u = if u = s then none else find d u := by
  by_cases e : u = s
  · subst e; rw [if_pos rfl]; exact find_without_self d u
  · rw [if_neg e]; exact find_without (Ne.symm e)
theorem find_doN (d : Dir) (a : RawN) (u : ByteArray) : find (doN d a) u = if a.come ≠ ByteArray.empty ∧ u = a.come then some a.num else if u = a.gone then none else find d u := by
  unfold doN
  by_cases h : a.come = ByteArray.empty
  · rw [if_pos h, if_neg (fun h2 => h2.1 h)]
    exact find_without_any d _ u
  · rw [if_neg h]
    by_cases h2 : u = a.come
    · rw [if_pos ⟨h, h2⟩, h2]
      exact find_with_self _ _ _ (find_without_self _ _)
    · rw [if_neg (fun h3 => h2 h3.2), find_with (Ne.symm h2), find_without (Ne.symm h2)]
      exact find_without_any d _ u
theorem OkDir.doN {d : Dir} (h : OkDir d) {a : RawN} (ha : a.come = ByteArray.empty ∨ isName a.come = true) : OkDir (doN d a) := by
  unfold Sf.doN
  split
  · exact h.without _
  · rename_i hc
    exact ((h.without _).without _).with_ (ha.resolve_left hc) (find_without_self _ _) _
theorem without_none {d : Dir} {s : ByteArray} (h : ∀ e ∈ d, e.1 ≠ s) : without d s = d := by
  unfold without
  rw [List.filter_eq_self]
  intro e he
  simpa using h e he
theorem create_doN {d : Dir} (h : OkDir d) {s : ByteArray} (hs : isName s = true) (hn : find d s = none) (n : Nat) : doN d ⟨ByteArray.empty, s, n⟩ = with_ d s n := by
  unfold doN
  rw [if_neg (name_ne hs)]
  simp only
  rw [without_none (fun e he => name_ne (h.name e he)), without_none (find_none hn)]
theorem mem_doN {d : Dir} {a : RawN} {e : ByteArray × Nat} (h : e ∈ doN d a) : e ∈ d ∨ (a.come ≠ ByteArray.empty ∧ e = (a.come, a.num)) := by
  unfold doN at h
  split at h
  · exact .inl ((without_sub _ _).subset h)
  · rename_i hc
    rcases mem_with.1 h with h | h
    · exact .inr ⟨hc, h⟩
    · exact .inl ((without_sub _ _).subset ((without_sub _ _).subset h))
theorem doN_len (d : Dir) (a : RawN) : (doN d a).length ≤ d.length + 1 := by
  unfold doN
  split
  · have := (without_sub d a.gone).length_le; omega
  · have h1 := (without_sub d a.gone).length_le
    have h2 := (without_sub (without d a.gone) a.come).length_le
    rw [(with_perm _ _ _).length_eq, List.length_cons]
    omega
/-- The directories behind each of some acts. -/
def dirs (d : Dir) : List RawN → List Dir
  | [] => []
  | a :: r => doN d a :: dirs (doN d a) r
theorem dirs_len (d : Dir) (l : List RawN) : (dirs d l).length = l.length := by
  induction l generalizing d with
  | nil => rfl
  | cons a r ih => simp [dirs, ih]
theorem dirs_snoc (d : Dir) (l : List RawN) (a : RawN) : dirs d (l ++ [a]) = dirs d l ++ [doN (l.foldl doN d) a] := by
  induction l generalizing d with
  | nil => rfl
  | cons x r ih => simp [dirs, ih]
theorem dirs_at (d : Dir) (l : List RawN) (k : Nat) (hk : k < l.length) : (dirs d l)[k]? = some ((l.take (k + 1)).foldl doN d) := by
  induction l generalizing d k with
  | nil => simp at hk
  | cons x r ih =>
    cases k with
    | zero => simp [dirs]
    | succ k =>
      simp at hk
      simp [dirs, ih (doN d x) k hk]
theorem dirs_mem {d : Dir} {l : List RawN} {e : Dir} (h : e ∈ dirs d l) : ∃ k, e = (l.take k).foldl doN d := by
  obtain ⟨k, hk, rfl⟩ := List.mem_iff_getElem.1 h
  rw [dirs_len] at hk
  refine ⟨k + 1, ?_⟩
  have := dirs_at d l k hk
  rw [List.getElem?_eq_getElem (by rw [dirs_len]; exact hk)] at this
  exact Option.some.inj this
/-- A directory as a map. -/
def dirF (d : Dir) (s : ByteArray) : Option Int := Option.map (fun n : Nat => (n : Int)) (find d s)
theorem dirF_doN (d : Dir) (a : RawN) : dirF (doN d a) = fun u => if a.come ≠ ByteArray.empty ∧ u = a.come then some (a.num : Int) else if u = a.gone then none else dirF d u := by
  funext u
  unfold dirF
  rw [find_doN]
  split
  · rfl
  · split <;> rfl
def dirL (d : Dir) : List (ByteArray × Int) := d.map fun e => (e.1, (e.2 : Int))
theorem dirF_iff {d : Dir} (h : OkDir d) (s : ByteArray) (y : Int) : dirF d s = some y ↔ (s, y) ∈ dirL d := by
  unfold dirF dirL
  rw [Option.map_eq_some_iff, List.mem_map]
  constructor
  · rintro ⟨n, hn, rfl⟩
    exact ⟨(s, n), h.find.1 hn, rfl⟩
  · rintro ⟨e, he, heq⟩
    obtain ⟨rfl, rfl⟩ := Prod.mk.inj heq
    exact ⟨e.2, h.find.2 he, rfl⟩
theorem dirL_keys (d : Dir) : (dirL d).map (·.1) = d.map (·.1) := by unfold dirL; rw [List.map_map]; rfl
end Sf
theorem fM_ok : MpOk fM where
  only := fun v kl h => by
    obtain ⟨x, h1, h2, h3⟩ := Maps.keyOf_int_inv Tryz.underlying3 h
    exact ⟨x, h3, h1, h2⟩
  elem := fun v y h => readX_any v y h
  dinj := fun a b h => datX_inj h
theorem dM_ok : MpOk dM where
  only := fun v kl h => by
    obtain ⟨s, h1, h2, h3⟩ := WideMaps.string_of_keyOf Tryz.underlying9 h
    exact ⟨s, h3, h1, h2⟩
  elem := fun v y h => by
    cases v with
    | int q a =>
      simp only [dM, readInt] at h
      split at h
      · rename_i e
        subst e
        exact ⟨a, rfl, (Option.some.inj h).symm⟩
      · cases h
    | _ => simp [dM, readInt] at h
  dinj := fun a b h => by simpa [dM] using h
/-- How many names a directory has. -/
theorem dir_len {w : World} {b n : Nat} {d : Sf.Dir} (h : IsMp dM w b n (Sf.dirF d)) (hd : Sf.OkDir d) (ty : TypeId) : (Builtin.len_ #[75] ty #[.map (some b)]).run Tryz.prog w = .ok (.int .i64 (d.length : Nat)) w := by
  have := h.size_ dM_ok (Sf.dirL d) (by rw [Sf.dirL_keys]; exact hd.nodup) (fun e he => by
    obtain ⟨x, hx, rfl⟩ := List.mem_map.1 he
    exact Sf.name_max (hd.name x hx)) (fun x _ y => Sf.dirF_iff hd x y) ty
  rw [Sf.dirL, List.length_map] at this
  exact this
end Go.Proofs.YtmcbjcbnckpfkaaGreat
