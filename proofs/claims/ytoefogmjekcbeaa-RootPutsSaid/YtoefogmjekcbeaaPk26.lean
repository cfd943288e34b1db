/-
  FreshA: Words for a slice that is known to its room's end; stookref00.Wide.
  Same: stookref00.Same answers whether two slices hold the same bytes.
  SameB: stookref00.Same on two slices that read as lists of bytes.
-/
import Derived.Test.YtoefogmjekcbeaaPk07
import Derived.Test.YtoefogmjekcbeaaPk25
import Derived.Laws.CopyOwn
import Derived.Test.YtoefogmjekcbeaaPk01
import Derived.Deep.QuietTactic
import Derived.BigQuiet
namespace Go.Proofs.Ytoefogmjekcbeaa
open Go.RowKit
set_option linter.unusedVariables false

/-- A call that answers these bytes in new memory with three bytes 7 behind them, and turns nothing that was there. -/
def IsWide (l : List Nat) (w : World) (e : Ending) (w' : World) : Prop :=
  ∃ g, e = .returned (.slice (some ⟨g, 0, none⟩) l.length (l.length + 3)) ∧ OwnB w' w.heap.size (.slice (some ⟨g, 0, none⟩) (l.length + 3) (l.length + 3)) (l ++ [7, 7, 7]) ∧ Below w.heap.size w w'

/-- The bytes of what Wide makes, k of the three behind the end written. -/
def wideTo (l : List Nat) (k : Nat) : List Nat := l ++ (List.replicate k 7 ++ List.replicate (3 - k) 0)
theorem wideTo_len (l : List Nat) (k : Nat) (hk : k ≤ 3) : (wideTo l k).length = l.length + 3 := by simp [wideTo]; omega
theorem wideTo_set (l : List Nat) (k : Nat) (hk : k < 3) : (wideTo l k).set (l.length + k) 7 = wideTo l (k + 1) := by
  unfold wideTo
  rw [List.set_append_right _ _ (by omega)]
  congr 1
  have e : l.length + k - l.length = k := by omega
  rw [e]
  match k, hk with
  | 0, _ => rfl
  | 1, _ => rfl
  | 2, _ => rfl

theorem copy_src {w w1 : World} {B : Nat} {A : Option Addr} {l : List Nat} (h : Bts w B A l) (hb : Below w.heap.size w w1) (hB : B ≤ w.heap.size) :
    0 < l.length → ∃ ad, A = some ad ∧ ∀ j v, (l.map u8)[j]? = some v → w1.cell? (ad.add j) = some v := by
  intro hp
  obtain ⟨b, off, rfl, hlt, hc⟩ := (h.below hb hB).2 hp
  refine ⟨_, rfl, fun j v hv => ?_⟩
  rw [List.getElem?_map] at hv
  cases hj : l[j]? with
  | none => rw [hj] at hv; cases hv
  | some x =>
    rw [hj] at hv
    have ea : (⟨b, off, none⟩ : Addr).add j = ⟨b, off + j, none⟩ := by unfold Addr.add; split <;> simp_all
    rw [ea, hc j x hj]
    simpa [u8] using hv

theorem wideTo_zero (l : List Nat) : (wideTo l 0).map u8 = l.map u8 ++ List.replicate 3 (Value.int .u8 0) := by
  unfold wideTo
  simp [u8]
set_option maxRecDepth 100000 in
theorem copy_run {w1 : World} {g c : Nat} {A : Option Addr} {l : List Nat} (hg : w1.heap[g]? = some (.cells (List.replicate (l.length + 3) (Value.int .u8 0)).toArray 5 (0, 0)))
    (hs : 0 < l.length → ∃ ad, A = some ad ∧ ∀ j v, (l.map u8)[j]? = some v → w1.cell? (ad.add j) = some v) (hsz : (Try.prog.info? 5).map (·.size) = some 1) :
    ∃ w2, (Builtin.copy_ #[25, 25] 3 #[.slice (some ⟨g, 0, none⟩) (l.length + 3) (l.length + 3), .slice A l.length c]).run Try.prog w1 = .ok (.int .i64 (l.length : Nat)) w2 ∧
      w2.heap[g]? = some (.cells ((wideTo l 0).map u8).toArray 5 (0, 0)) ∧ ∀ B w0, Below B w0 w1 → B ≤ g → Below B w0 w2 := by
  by_cases h0 : 0 < l.length
  · obtain ⟨ad, rfl, hc⟩ := hs h0
    have hrun := run_copy_row (P := Try.prog) w1 25 25 3 5 g 0 (l.length + 3) (l.length + 3) ad l.length c _ 5 (l.map u8) Try.underlying25 hsz hg
      (by rw [List.length_map]; exact (Nat.min_eq_left (by omega)).symm) hc (by simp) (by intro u hu; obtain ⟨_, _, rfl⟩ := List.mem_map.1 hu; rfl)
    refine ⟨_, by simpa [goInt] using hrun, ?_, fun B w0 hb hB => below_setRow hb hB _⟩
    have h2 := setRow_heap w1 g _ ((wideTo l 0).map u8).toArray _ _ hg
    rw [← h2]
    congr 3
    rw [wideTo_zero]
    simp
  · obtain rfl : l = [] := List.eq_nil_of_length_eq_zero (by omega)
    have hrun := run_copy_none (P := Try.prog) w1 25 25 3 5 (some ⟨g, 0, none⟩) A 3 3 0 c Try.underlying25 hsz (by rfl)
    exact ⟨w1, by simpa [goInt] using hrun, by simpa [wideTo, u8] using hg, fun B w0 hb _ => hb⟩

set_option maxHeartbeats 2000000 in
set_option maxRecDepth 100000 in
theorem wide_far (v : Value) (l : List Nat) (B : Nat) (w : World) (hB : B ≤ w.heap.size) (h : Bv w B v l) (hsz : l.length ≤ 140737488351232) :
    Calls Try.prog 10 #[v] w (IsWide l w) := by
  have H0 := Lib.hid h
  obtain ⟨A, c, rfl, hc1, hc2, hc3, hts⟩ := h
  have HTS := Lib.hid hts
  obtain ⟨i0, hi, hz0, hz1, hz2⟩ := info_parts info5
  have hby : i0.bytes * (l.length + 3) ≤ 281474976710656 := by rw [hz2]; omega
  have hml : l.length + 3 ≤ maxLen := by simp only [maxLen]; omega
  unfold maxLen at hc2
  have HC3 := Lib.hid hc3
  have hisz : (Try.prog.info? 5).map (·.size) = some 1 := by rw [hi]; simp [hz1]
  have HI := Lib.hid hisz
  clear hts hc3 hisz
  go_enter Try.func10, Try.ntmps10
  go_wp2_with (at_make; go_must (refine wpList_make_full _ rfl _ _ 25 rfl w.heap.size 5 i0 (.int .u8 0) 1 Try.underlying25 hi hz0 hz1 .i64 .i64 _ _ (l.length + 3) rfl rfl (by simp) (by simp) hby hml (Nat.le_refl _) ?_; intro w1 hown hgrow); have hb1 : Below w.heap.size w w1 := (Below.refl _ _).grown hgrow (Nat.le_refl _) (by intro k hk; cases hk); obtain ⟨w2, hcp, hh2, hbb⟩ := copy_run (c := c) (zeros_heap hown) (copy_src HTS.out hb1 hB) HI.out; have HH := Lib.hid hh2; have HB2 := Lib.hid (hbb _ _ hb1 (Nat.le_refl _)); clear hown hgrow hb1 hh2 hbb)
  clear hcp
  have hO0 : Hid (OwnB w2 w.heap.size (.slice (some ⟨w.heap.size, 0, none⟩) (l.length + 3) (l.length + 3)) (wideTo l 0)) := by
    have h1 := wideTo_len l 0 (by omega)
    have h2 := OwnB.of_heap (w := w2) (base := w.heap.size) (Nat.le_refl _) (l := wideTo l 0) (by
      intro x hx
      rcases List.mem_append.1 hx with h | h
      · exact HTS.out.1 x h
      · simp at h; omega) (by rw [h1]; exact hml) HH.out
    rw [h1] at h2
    exact h2
  clear HH HTS HI hi hz0 hz1 hz2 hby hml H0
  go_loopw [5] (fun i wr => ∃ k : Nat, k ≤ 3 ∧ i = .int .i64 (l.length + k : Nat) ∧ Hid (OwnB wr w.heap.size (.slice (some ⟨w.heap.size, 0, none⟩) (l.length + 3) (l.length + 3)) (wideTo l k)) ∧ Below w.heap.size w wr) (fun i _ => l.length + 3 - (intOf i).toNat)
  case atStart => exact ⟨0, by omega, rfl, hO0.out, HB2.out⟩
  case round =>
    obtain ⟨k, hk, rfl, HO, hbr⟩ := hrel
    clear hO0 HB2
    by_cases hlt : k < 3
    · have hwl := wideTo_len l k hk
      have ho := HO.out
      rw [← hwl] at ho
      have hj : l.length + k < (wideTo l k).length := by omega
      obtain ⟨A', c', e', _, _, _, hts⟩ := ho.form_
      injection e' with e1 e2 e3
      subst e1
      obtain ⟨b, off, x, e4, hb, hx, hd, hcell⟩ := hts.at_ hj
      injection e4 with e4
      injection e4 with e5 e6
      subst e5 e6
      rw [Nat.zero_add] at hcell
      obtain ⟨hs1, hs2⟩ := ho.set_ (l.length + k) (x := 7) (by omega)
      have hfr : wr.frozen? ⟨w.heap.size, l.length + k, none⟩ = false := ho.2.frozenAt _
      rw [wideTo_set l k hlt] at hs1
      have HS := Lib.hid hs1
      have HL1 := Lib.hid (wideTo_len l (k + 1) (by omega))
      have HL2 := Lib.hid hwl
      clear hts hd e3 e2 hs1 hs2 ho hwl HO hj hx
      go_wp2
      have hs := HS.out
      rw [HL1.out, HL2.out] at hs
      exact ⟨⟨k + 1, by omega, congrArg (Value.int IntKind.i64) (by omega), hs, hbr.setCell (Nat.le_refl _) _⟩, by simp [intOf]; omega⟩
    · have hk3 : k = 3 := by omega
      subst hk3
      go_wp2
      go_ret
      exact ⟨w.heap.size, rfl, (by simpa [wideTo] using HO.out), hbr⟩
theorem wide_any (v : Value) (l : List Nat) (B : Nat) (w : World) (hB : B ≤ w.heap.size) (h : Bv w B v l) (hsz : l.length ≤ 1073741824) :
    Calls Try.prog 10 #[v] w (IsWide l w) := wide_far v l B w hB h (Nat.le_trans hsz (by decide))
end Go.Proofs.Ytoefogmjekcbeaa
namespace Go.Proofs.Ytoefogmjekcbeaa
open Go.RowKit
set_option linter.unusedVariables false

theorem take_eq_succ {la lb : List Nat} {k a b : Nat} (h : la.take k = lb.take k) (ha : la.drop k = a :: la.drop (k + 1)) (hb : lb.drop k = b :: lb.drop (k + 1)) : (la.take (k + 1) = lb.take (k + 1)) ↔ a = b := by
  have h1 : la.take (k + 1) = la.take k ++ [a] := by
    have := List.take_add (l := la) (i := k) (j := 1)
    rw [this, ha]; rfl
  have h2 : lb.take (k + 1) = lb.take k ++ [b] := by
    have := List.take_add (l := lb) (i := k) (j := 1)
    rw [this, hb]; rfl
  rw [h1, h2, h]
  simp

theorem take_ne {la lb : List Nat} {k : Nat} (h : la.take k ≠ lb.take k) : la ≠ lb := fun e => h (by rw [e])

set_option maxHeartbeats 400000 in
theorem same_ne (A A' : Option Addr) (la lb : List Nat) (c c' : Nat) (w : World) (hlen : la.length ≤ maxLen) (hlen' : lb.length ≤ maxLen) (hne : la.length ≠ lb.length) :
    Calls Try.prog 8 #[.slice A la.length c, .slice A' lb.length c'] w (IsBool false w) := by
  unfold maxLen at hlen hlen'
  have hq : (((la.length : Nat) : Int) != ((lb.length : Nat) : Int)) = true := by rw [bne_iff_ne]; omega
  go_enter Try.func8, Try.ntmps8
  go_wp2
  go_ret
  exact ⟨rfl, Below.refl _ _⟩

set_option maxHeartbeats 400000 in
theorem same_eq (A A' : Option Addr) (la lb : List Nat) (c c' B B' : Nat) (w : World) (ha : Bts w B A la) (hb : Bts w B' A' lb) (hlen : la.length ≤ maxLen) (heq : la.length = lb.length) :
    Calls Try.prog 8 #[.slice A la.length c, .slice A' lb.length c'] w (IsBool (decide (la = lb)) w) := by
  unfold maxLen at hlen
  have hq : (((la.length : Nat) : Int) != ((lb.length : Nat) : Int)) = false := by rw [heq]; simp
  have HE := Lib.hid heq
  have hle : la.length ≤ lb.length := by omega
  have hge : lb.length ≤ la.length := by omega
  clear heq
  go_enter Try.func8, Try.ntmps8
  go_wp2
  go_loopw [5] (fun i wr => ∃ k : Nat, k ≤ la.length ∧ i = .int .i64 k ∧ Hid (la.take k = lb.take k) ∧ Below w.heap.size w wr ∧ Hid (Bts wr B A la) ∧ Hid (Bts wr B' A' lb)) (fun i _ => la.length - (intOf i).toNat)
  case atStart => exact ⟨0, by omega, rfl, by simp [Hid], Below.refl _ _, ha, hb⟩
  case round =>
    obtain ⟨k, hk, rfl, HT, hbel, HA, HB⟩ := hrel
    by_cases hlt : k < la.length
    · obtain ⟨b1, o1, x, rfl, hb1, hx, hd, hcell⟩ := HA.out.at_ hlt
      obtain ⟨b2, o2, y, rfl, hb2, hy, hd', hcell'⟩ := HB.out.at_ (k := k) (by omega)
      have HS := Lib.hid (take_eq_succ HT.out hd hd')
      clear hd hd' ha hb
      have hlt' : k < lb.length := by omega
      by_cases hxy : x = y
      · subst hxy
        have hq2 : ((x : Int) != (x : Int)) = false := by simp
        go_wp2
        go_quiet (fail)
        go_wp2
        go_roundw
        case rel => exact ⟨k + 1, by omega, by go_num, HS.out.2 (by simp), below_drewN hbel _, HA.out, HB.out⟩
        case measure => simp [intOf]; omega
      · have hq2 : ((x : Int) != (y : Int)) = true := by rw [bne_iff_ne]; omega
        go_wp2
        go_quiet (fail)
        go_wp2
        go_ret
        have hne : la ≠ lb := take_ne (fun e => hxy (HS.out.1 e))
        exact ⟨by simp [hne], below_drewN hbel _⟩
    · go_wp2
      go_ret
      have h0 : k = la.length := by omega
      have h1 : la = lb := by
        have := HT.out
        rw [List.take_of_length_le (by omega), List.take_of_length_le (by omega)] at this
        exact this
      exact ⟨by simp [h1], hbel⟩

theorem same_any (A A' : Option Addr) (la lb : List Nat) (c c' B B' : Nat) (w : World) (ha : Bts w B A la) (hb : Bts w B' A' lb) (hlen : la.length ≤ maxLen) (hlen' : lb.length ≤ maxLen) :
    Calls Try.prog 8 #[.slice A la.length c, .slice A' lb.length c'] w (IsBool (decide (la = lb)) w) := by
  by_cases h : la.length = lb.length
  · exact same_eq A A' la lb c c' B B' w ha hb hlen h
  · have hne : la ≠ lb := fun e => h (by rw [e])
    have := same_ne A A' la lb c c' w hlen hlen' h
    simpa [hne] using this
end Go.Proofs.Ytoefogmjekcbeaa
namespace Go.Proofs.Ytoefogmjekcbeaa
open Go.RowKit

theorem same_bv (v v' : Value) (la lb : List Nat) (B B' : Nat) (w : World) (h : Bv w B v la) (h' : Bv w B' v' lb) :
    Calls Try.prog 8 #[v, v'] w (IsBool (decide (la = lb)) w) := by
  obtain ⟨A, c, rfl, h1, h2, h3, h4⟩ := h
  obtain ⟨A', c', rfl, h1', h2', h3', h4'⟩ := h'
  exact same_any A A' la lb c c' B B' w h4 h4' (by omega) (by omega)

end Go.Proofs.Ytoefogmjekcbeaa
