/-
  FrameD: From what a row says of a deed (stooklaw14.Op by value) to the words of this text; a load of a struct within a slice, under a guard.
  SfSure: Chapter 14: a file that is sure, of a name that is there for sure, stays, whatever is done to others.
  Texts: stookref00.Texts answers whether two slices hold the same texts.
-/
import Derived.Test.YtmcbjcbnckpfkaaPk06
import Derived.Test.YtmcbjcbnckpfkaaPk05
import Derived.Deep.MidRow
import Derived.SizedLaws
import Derived.Test.YtmcbjcbnckpfkaaPk09
import Derived.Test.YtmcbjcbnckpfkaaPk04
import Derived.Deep.QuietTactic
import Derived.BigQuiet
namespace Go.Proofs.Ytmcbjcbnckpfkaa
open Go.ChangeShapes Go.WideShapes Go.ChangeAt Go.RowKit
set_option linter.unusedVariables false
set_option maxRecDepth 100000 in
theorem deed_in {H : Type} {enc : TypeId × Value → H} {w : World} {b : Nat} {held : Bool} {v : Value} {d : DataW H} {p : List MemPlace}
    (hok : Value.okWide Try.prog w .any b 35 v) (h : DataW.Trod enc Try.prog w 0 (fun _ => true) held 35 v d p) :
    ∃ (x : Raw) (o : Sf.Op), v = .agg (deedC x) ∧ RawOk x ∧ Deed w w.heap.size x o := by
  obtain ⟨cs, rfl, hsz⟩ := okWide_struct Try.underlying35 hok
  obtain ⟨fuel, hf⟩ := h
  obtain ⟨x, hx, ⟨o, ho⟩, hcs⟩ := deed_dec hf
  refine ⟨x, o, ?_, hx, ho⟩
  congr 1
  apply Array.toList_inj.1
  exact hcs
/-- A load of a struct within a slice, where its guard lets it. -/
theorem wpList_load_mid_on {P : Program} {ops : Array Oper} {rest : List Oper} {op : Oper} {a : Act} {w : World} {Q : Exit → Act → World → Prop} (hw : Region.wanted op (yielded ops a.tmps) = true) (ty : TypeId) (x : Operand) (ho : op.op = .load ty x)
    (b o : Nat) (hx : a.eval x = .pointer (some ⟨b, o, none⟩)) (cs : List Value) (d : TypeDesc) (hc : w.rangeAt b o cs)
    (hu : P.underlying ty = some d) (hd : d.isRow = true) (hi : (P.info? ty).map (·.size) = some cs.length)
    (h : wpList P ops Q rest (a.put op.dst (.agg cs.toArray)) w) : wpList P ops Q (op :: rest) a w :=
  wpList_step fun K hK => by
    rw [if_pos hw]
    exact wp_load_mid ty x ho b o hx cs d hc hu hd hi (hK _ _ h)
end Go.Proofs.Ytmcbjcbnckpfkaa
namespace Go.Proofs.Ytmcbjcbnckpfkaa.Sf
open Go.RowKit
set_option linter.unusedVariables false

theorem blown_files (t : St) : (blown t).2.files = t.files := by
  unfold blown
  split
  · rfl
  · split <;> rfl
structure SureInv (s : ByteArray) (b : List Nat) (t : St) : Prop where
  file : fileAt t 0 = ⟨b, []⟩
  has : 0 < t.files.length
  sure : find t.sure s = some 0
  seen : find t.seen s = some 0
  row : ∀ d ∈ t.row, find d s = some 0
  only : ∀ e ∈ t.seen, e.1 ≠ s → e.2 ≠ 0
section
variable {s : ByteArray} {b : List Nat} {t : St}
theorem SureInv.blown_ (h : SureInv s b t) : SureInv s b (blown t).2 := by
  unfold blown
  split
  · exact ⟨h.file, h.has, h.sure, h.seen, h.row, h.only⟩
  · split
    · exact ⟨h.file, h.has, h.sure, h.seen, h.row, h.only⟩
    · exact ⟨h.file, h.has, h.sure, h.seen, h.row, h.only⟩
theorem SureInv.turn_ (h : SureInv s b t) {d : Dir} (hd : find d s = some 0) (ho : ∀ e ∈ d, e.1 ≠ s → e.2 ≠ 0) : SureInv s b (turn t d).2 := by
  unfold turn
  refine SureInv.blown_ ⟨h.file, h.has, h.sure, hd, fun x hx => ?_, ho⟩
  simp only [List.mem_append, List.mem_singleton] at hx
  rcases hx with hx | rfl
  · exact h.row x hx
  · exact hd
theorem SureInv.set_ (h : SureInv s b t) {n : Nat} (hn : n ≠ 0) (f : File) : SureInv s b { t with files := t.files.set n f } := by
  refine ⟨?_, by simpa using h.has, h.sure, h.seen, h.row, h.only⟩
  have h1 := h.file
  unfold fileAt at h1 ⊢
  simp only
  rw [List.getD_eq_getElem?_getD, List.getElem?_set_ne hn, ← List.getD_eq_getElem?_getD]
  exact h1
theorem SureInv.num (h : SureInv s b t) {u : ByteArray} (hu : u ≠ s) (hg : ¬ (get t u).2 ≠ 0) : (get t u).1 ≠ 0 := by
  obtain ⟨_, hf⟩ := get_ok (t := t) (s := u) (by omega)
  exact h.only _ (find_mem hf) hu
theorem SureInv.add_ (h : SureInv s b t) {n : Nat} (hn : n ≠ 0) (a : Act) : SureInv s b (add t n a).2 := by
  unfold add
  exact SureInv.blown_ (h.set_ hn _)
theorem SureInv.deed (h : SureInv s b t) (o : Op) (h1 : o.name ≠ s) (h2 : o.to ≠ s) : SureInv s b (doOp t o).2 := by
  unfold doOp
  split
  · unfold create; split; · exact h
    split; · exact h
    split; · exact h
    split; · exact h
    have h0 : SureInv s b { t with files := t.files ++ [noFile] } := by
      refine ⟨?_, by simp, h.sure, h.seen, h.row, h.only⟩
      have h1 := h.file
      unfold fileAt at h1 ⊢
      simp only
      rw [List.getD_eq_getElem?_getD, List.getElem?_append_left h.has, ← List.getD_eq_getElem?_getD]
      exact h1
    refine h0.turn_ ((find_with h1).trans h.seen) fun e he hs => ?_
    rcases mem_with.1 he with rfl | he
    · have := h.has; simp only; omega
    · exact h.only e he hs
  split
  · unfold append; split; · exact h
    rename_i hg
    split; · exact h
    exact h.add_ (h.num h1 hg) _
  split
  · unfold write; split; · exact h
    rename_i hg
    split; · exact h
    split; · exact h
    exact h.add_ (h.num h1 hg) _
  split
  · unfold cut; split; · exact h
    rename_i hg
    split; · exact h
    exact h.add_ (h.num h1 hg) _
  split
  · unfold rename; split; · exact h
    rename_i hg
    split; · exact h
    refine h.turn_ ?_ fun e he hs => ?_
    · rw [find_with h2, find_without h2, find_without h1]; exact h.seen
    · rcases mem_with.1 he with rfl | he
      · exact h.num h1 hg
      · exact h.only e (mem_without.1 (mem_without.1 he).1).1 hs
  split
  · unfold remove; split; · exact h
    refine h.turn_ ?_ fun e he hs => ?_
    · rw [find_without h1]; exact h.seen
    · exact h.only e (mem_without.1 he).1 hs
  split
  · unfold sync; split; · exact h
    rename_i hg
    split; · exact h.blown_
    have hb := h.blown_
    have e : (blown t).2.files = t.files := blown_files t
    have := hb.set_ (h.num h1 hg) ⟨now (fileAt t (get t o.name).1), []⟩
    rw [e] at this
    exact this
  split
  · unfold syncDir; split; · exact h
    split; · exact h.blown_
    have hb := h.blown_
    exact ⟨hb.file, hb.has, h.seen, hb.seen, by simp, hb.only⟩
  split
  · unfold arm; split; · exact h
    split; · exact h
    exact ⟨h.file, h.has, h.sure, h.seen, h.row, h.only⟩
  exact h
/-- What is read of it behind a failure. -/
theorem SureInv.left_ (h : SureInv s b t) (l : List Int) (hb : b.length ≤ 1048576) : read (fail t l) s 0 1048576 = (b, 0) := by
  have hd : find (dirOf t l) s = some 0 := by
    rcases dirOf_mem t l with e | e
    · rw [e]; exact h.sure
    · exact h.row _ e
  obtain ⟨l', e⟩ := fail_read hd 1048576 (by decide)
  rw [e, h.file, kept1_none, List.take_of_length_le (by simpa using hb)]
end

/-! ### The first file of a disk -/
/-- A disk of one file that is sure. -/
def oneSure (s : ByteArray) (b : List Nat) (acts : Nat) : St := ⟨1048576, [⟨b, []⟩], [(s, 0)], [], [(s, 0)], acts, 0, false⟩
theorem one1 {s : ByteArray} (h : isName s = true) : create (new 1048576) s = (0, ⟨1048576, [noFile], [], [[(s, 0)]], [(s, 0)], 1, 0, false⟩) := by
  unfold create
  rw [if_neg (by simp [new]), if_neg (by rw [h]; simp), if_neg (by simp [new, find]), if_neg (by simp [new])]
  rfl
def one1S (s : ByteArray) : St := ⟨1048576, [noFile], [], [[(s, 0)]], [(s, 0)], 1, 0, false⟩
theorem get_one {t : St} {s : ByteArray} {n : Nat} {d : Dir} (hd : t.dead = false) (h : t.seen = (s, n) :: d) : get t s = (n, 0) := by
  unfold get find
  rw [hd, h]
  simp
def one2S (s : ByteArray) (b : List Nat) : St := ⟨1048576, [⟨[], [⟨false, 0, b⟩]⟩], [], [[(s, 0)]], [(s, 0)], 2, 0, false⟩
theorem one2 (s : ByteArray) {b : List Nat} (hb : b.length ≤ 1048576) : append (one1S s) s b = (0, one2S s b) := by
  have hg : get (one1S s) s = (0, 0) := get_one rfl rfl
  unfold append
  rw [hg, if_neg (by simp), if_neg (by simp [one1S, used, lens, len, fileAt, noFile, now]; omega)]
  rfl
def one3S (s : ByteArray) (b : List Nat) : St := ⟨1048576, [⟨b, []⟩], [], [[(s, 0)]], [(s, 0)], 3, 0, false⟩
theorem one3 (s : ByteArray) (b : List Nat) : sync (one2S s b) s = (0, one3S s b) := by
  have hg : get (one2S s b) s = (0, 0) := get_one rfl rfl
  unfold sync
  rw [hg, if_neg (by simp)]
  have e : now (fileAt (one2S s b) 0) = b := by simp [one2S, fileAt, now, done]
  rw [show (blown (one2S s b)) = (0, { one2S s b with acts := 3 }) from rfl, if_neg (by simp), e]
  rfl
theorem one4 (s : ByteArray) (b : List Nat) : syncDir (one3S s b) = (0, oneSure s b 4) := rfl
theorem sure_one (s : ByteArray) (b : List Nat) (n : Nat) : SureInv s b (oneSure s b n) :=
  ⟨rfl, by simp [oneSure], by simp [oneSure, find], by simp [oneSure, find], by simp [oneSure], by simp [oneSure]⟩
end Go.Proofs.Ytmcbjcbnckpfkaa.Sf
namespace Go.Proofs.Ytmcbjcbnckpfkaa
open Go.RowKit
set_option linter.unusedVariables false

theorem str_inj {x y : ByteArray} (h : x.toList = y.toList) : x = y := by
  rw [ByteArray.toList_eq, ByteArray.toList_eq] at h
  apply ByteArray.ext
  exact Array.toList_inj.1 h

set_option maxHeartbeats 400000 in
theorem texts_ne (A A' : Option Addr) (la lb : List ByteArray) (c c' : Nat) (w : World) (hlen : la.length ≤ maxLen) (hlen' : lb.length ≤ maxLen) (hne : la.length ≠ lb.length) :
    Calls Try.prog 34 #[.slice A la.length c, .slice A' lb.length c'] w (IsBool false w) := by
  unfold maxLen at hlen hlen'
  have hq : (((la.length : Nat) : Int) != ((lb.length : Nat) : Int)) = true := by rw [bne_iff_ne]; omega
  go_enter Try.func34, Try.ntmps34
  go_wp2
  go_ret
  exact ⟨rfl, Below.refl _ _⟩

set_option maxHeartbeats 400000 in
theorem texts_eq (A A' : Option Addr) (la lb : List ByteArray) (c c' B B' : Nat) (w : World) (ha : Lv sK w B (.slice A la.length c) la) (hb : Lv sK w B' (.slice A' lb.length c') lb) (heq : la.length = lb.length) :
    Calls Try.prog 34 #[.slice A la.length c, .slice A' lb.length c'] w (IsBool (decide (la = lb)) w) := by
  have hlen : la.length ≤ 9223372036854775807 := by have := ha.len_; simp only [maxLen] at this; omega
  have hq : (((la.length : Nat) : Int) != ((lb.length : Nat) : Int)) = false := by rw [heq]; simp
  have HE := Lib.hid heq
  have hle : la.length ≤ lb.length := by omega
  have hge : lb.length ≤ la.length := by omega
  clear heq
  go_enter Try.func34, Try.ntmps34
  go_wp2
  go_loopw [5] (fun i wr => ∃ k : Nat, k ≤ la.length ∧ i = .int .i64 k ∧ Hid (la.take k = lb.take k) ∧ Below w.heap.size w wr ∧ Hid (Lv sK wr B (.slice A la.length c) la) ∧ Hid (Lv sK wr B' (.slice A' lb.length c') lb)) (fun i _ => la.length - (intOf i).toNat)
  case atStart => exact ⟨0, by omega, rfl, by simp [Hid], Below.refl _ _, ha, hb⟩
  case round =>
    obtain ⟨k, hk, rfl, HT, hbel, HA, HB⟩ := hrel
    by_cases hlt : k < la.length
    · obtain ⟨b1, o1, x, rfl, hb1, hx, hd, hcell⟩ := HA.out.str_ hlt
      obtain ⟨b2, o2, y, rfl, hb2, hy, hd', hcell'⟩ := HB.out.str_ (k := k) (by omega)
      have HS := Lib.hid (take_both HT.out hd hd')
      clear hd hd' ha hb hx hy
      have hlt' : k < lb.length := by omega
      by_cases hxy : x = y
      · subst hxy
        have hq2 : (x.toList == x.toList) = true := by simp
        go_wp2
        go_quiet (fail)
        go_wp2
        go_roundw
        case rel => exact ⟨k + 1, by omega, by go_num, HS.out.2 (by simp), below_drewN hbel _, HA.out, HB.out⟩
        case measure => simp [intOf]; omega
      · have hq2 : (x.toList == y.toList) = false := by rw [beq_eq_false_iff_ne]; exact fun e => hxy (str_inj e)
        go_wp2
        go_quiet (fail)
        go_wp2
        go_ret
        have hne : la ≠ lb := take_unlike (fun e => hxy (HS.out.1 e))
        exact ⟨by simp [hne], below_drewN hbel _⟩
    · go_wp2
      go_ret
      have h1 : la = lb := take_whole HT.out (by omega) (by omega)
      exact ⟨by simp [h1], hbel⟩

theorem texts_lv (v v' : Value) (la lb : List ByteArray) (B B' : Nat) (w : World) (h : Lv sK w B v la) (h' : Lv sK w B' v' lb) :
    Calls Try.prog 34 #[v, v'] w (IsBool (decide (la = lb)) w) := by
  have k := h
  have k' := h'
  obtain ⟨A, c, rfl, h1, h2, _⟩ := h
  obtain ⟨A', c', rfl, h1', h2', _⟩ := h'
  by_cases he : la.length = lb.length
  · exact texts_eq A A' la lb c c' B B' w k k' he
  · have hne : la ≠ lb := fun e => he (by rw [e])
    have := texts_ne A A' la lb c c' w (by omega) (by omega) he
    simpa [hne] using this
end Go.Proofs.Ytmcbjcbnckpfkaa
