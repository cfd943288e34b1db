/- Parts of the proof. -/
import Derived.Test.YtiafeniflkikeaaGreatPk08
import Derived.Test.YtiafeniflkikeaaGreatPk10
import Derived.Test.YtiafeniflkikeaaGreatPk11
import Derived.Laws.CopyOwn
import Derived.Test.YtiafeniflkikeaaGreatProg
import Derived.WalkKit
namespace Go.Proofs.YtiafeniflkikeaaGreat
open Go.RowKit
set_option linter.unusedVariables false
theorem OwnB.set_ {w : World} {base g c : Nat} {l : List Nat} (h : OwnB w base (.slice (some ⟨g, 0, none⟩) l.length c) l) (j : Nat) {x : Nat} (hx : x < 256) :
  OwnB (w.setCell ⟨g, j, none⟩ (.int .u8 (x : Nat))) base (.slice (some ⟨g, 0, none⟩) (l.set j x).length c) (l.set j x) ∧ w.grownBy (w.setCell ⟨g, j, none⟩ (.int .u8 (x : Nat))) (some g) := by
 obtain ⟨h1, h2⟩ := h.2.stored j (.int .u8 (x : Nat))
 refine ⟨⟨fun y hy => ?_, ?_⟩, h2⟩
 ·rcases List.mem_or_eq_of_mem_set hy with h3 | rfl
  ·exact h.1 y h3
  ·exact hx
 ·rw [List.length_set]
  have e : (l.set j x).map u8 = (l.map u8).set j (.int .u8 (x : Nat)) := by rw [List.map_set]; rfl
  rw [e]
  exact h1
end Go.Proofs.YtiafeniflkikeaaGreat
namespace Go.Proofs.YtiafeniflkikeaaGreat
open Go.RowKit
set_option linter.unusedVariables false
def IsWide (l : List Nat) (w : World) (e : Ending) (w' : World) : Prop :=
 ∃ g, e = .returned (.slice (some ⟨g, 0, none⟩) l.length (l.length + 3)) ∧ OwnB w' w.heap.size (.slice (some ⟨g, 0, none⟩) (l.length + 3) (l.length + 3)) (l ++ [7, 7, 7]) ∧ Below w.heap.size w w'
def wideTo (l : List Nat) (k : Nat) : List Nat := l ++ (List.replicate k 7 ++ List.replicate (3 - k) 0)
theorem wideTo_len (l : List Nat) (k : Nat) (hk : k ≤ 3) : (wideTo l k).length = l.length + 3 := by simp [wideTo]; omega
theorem wideTo_set (l : List Nat) (k : Nat) (hk : k < 3) : (wideTo l k).set (l.length + k) 7 = wideTo l (k + 1) := by
 unfold wideTo
 rw [List.set_append_right _ _ (by omega)]
 congr 1
 have e : l.length + k - l.length = k := by omega
 rw [e]
 match k, hk with
 | 0, _ => rfl
 | 1, _ => rfl
 | 2, _ => rfl
theorem copy_src {w w1 : World} {B : Nat} {A : Option Addr} {l : List Nat} (h : Bts w B A l) (hb : Below w.heap.size w w1) (hB : B ≤ w.heap.size) :
  0 < l.length → ∃ ad, A = some ad ∧ ∀ j v, (l.map u8)[j]? = some v → w1.cell? (ad.add j) = some v := by
 intro hp
 obtain ⟨b, off, rfl, hlt, hc⟩ := (h.below hb hB).2 hp
 refine ⟨_, rfl, fun j v hv => ?_⟩
 rw [List.getElem?_map] at hv
 cases hj : l[j]? with
 | none => rw [hj] at hv; cases hv
 | some x =>
  rw [hj] at hv
  have ea : (⟨b, off, none⟩ : Addr).add j = ⟨b, off + j, none⟩ := by unfold Addr.add; split <;> simp_all
  rw [ea, hc j x hj]
  simpa [u8] using hv
theorem wideTo_zero (l : List Nat) : (wideTo l 0).map u8 = l.map u8 ++ List.replicate 3 (Value.int .u8 0) := by
 unfold wideTo
 simp [u8]
set_option maxRecDepth 100000 in
theorem copy_run {w1 : World} {g c : Nat} {A : Option Addr} {l : List Nat} (hg : w1.heap[g]? = some (.cells (List.replicate (l.length + 3) (Value.int .u8 0)).toArray 5 (0, 0)))
  (hs : 0 < l.length → ∃ ad, A = some ad ∧ ∀ j v, (l.map u8)[j]? = some v → w1.cell? (ad.add j) = some v) (hsz : (Tryz.prog.info? 5).map (·.size) = some 1) :
  ∃ w2, (Builtin.copy_ #[40, 40] 3 #[.slice (some ⟨g, 0, none⟩) (l.length + 3) (l.length + 3), .slice A l.length c]).run Tryz.prog w1 = .ok (.int .i64 (l.length : Nat)) w2 ∧
   w2.heap[g]? = some (.cells ((wideTo l 0).map u8).toArray 5 (0, 0)) ∧ ∀ B w0, Below B w0 w1 → B ≤ g → Below B w0 w2 := by
 by_cases h0 : 0 < l.length
 ·obtain ⟨ad, rfl, hc⟩ := hs h0
  have hrun := run_copy_row (P := Tryz.prog) w1 40 40 3 5 g 0 (l.length + 3) (l.length + 3) ad l.length c _ 5 (l.map u8) Tryz.underlying40 hsz hg
   (by rw [List.length_map]; exact (Nat.min_eq_left (by omega)).symm) hc (by simp) (by intro u hu; obtain ⟨_, _, rfl⟩ := List.mem_map.1 hu; rfl)
  refine ⟨_, by simpa [goInt] using hrun, ?_, fun B w0 hb hB => below_setRow hb hB _⟩
  have h2 := setRow_heap w1 g _ ((wideTo l 0).map u8).toArray _ _ hg
  rw [← h2]
  congr 3
  rw [wideTo_zero]
  simp
 ·obtain rfl : l = [] := List.eq_nil_of_length_eq_zero (by omega)
  have hrun := run_copy_none (P := Tryz.prog) w1 40 40 3 5 (some ⟨g, 0, none⟩) A 3 3 0 c Tryz.underlying40 hsz (by rfl)
  exact ⟨w1, by simpa [goInt] using hrun, by simpa [wideTo, u8] using hg, fun B w0 hb _ => hb⟩
set_option maxHeartbeats 2000000 in
set_option maxRecDepth 100000 in
theorem wide_far (v : Value) (l : List Nat) (B : Nat) (w : World) (hB : B ≤ w.heap.size) (h : Bv w B v l) (hsz : l.length ≤ 140737488351232) :
  Calls Tryz.prog 48 #[v] w (IsWide l w) := by
 have H0 := Lib.hid h
 obtain ⟨A, c, rfl, hc1, hc2, hc3, hts⟩ := h
 have HTS := Lib.hid hts
 obtain ⟨i0, hi, hz0, hz1, hz2⟩ := info_parts info5
 have hby : i0.bytes * (l.length + 3) ≤ 281474976710656 := by rw [hz2]; omega
 have hml : l.length + 3 ≤ maxLen := by simp only [maxLen]; omega
 unfold maxLen at hc2
 have HC3 := Lib.hid hc3
 have hisz : (Tryz.prog.info? 5).map (·.size) = some 1 := by rw [hi]; simp [hz1]
 have HI := Lib.hid hisz
 clear hts hc3 hisz
 go_enter Tryz.func48, Tryz.ntmps48
 go_wp2_with (at_make; go_must (refine wpList_make_full _ rfl _ _ 40 rfl w.heap.size 5 i0 (.int .u8 0) 1 Tryz.underlying40 hi hz0 hz1 .i64 .i64 _ _ (l.length + 3) rfl rfl (by simp) (by simp) hby hml (Nat.le_refl _) ?_; intro w1 hown hgrow); have hb1 : Below w.heap.size w w1 := (Below.refl _ _).grown hgrow (Nat.le_refl _) (by intro k hk; cases hk); obtain ⟨w2, hcp, hh2, hbb⟩ := copy_run (c := c) (zeros_heap hown) (copy_src HTS.out hb1 hB) HI.out; have HH := Lib.hid hh2; have HB2 := Lib.hid (hbb _ _ hb1 (Nat.le_refl _)); clear hown hgrow hb1 hh2 hbb)
 clear hcp
 have hO0 : Hid (OwnB w2 w.heap.size (.slice (some ⟨w.heap.size, 0, none⟩) (l.length + 3) (l.length + 3)) (wideTo l 0)) := by
  have h1 := wideTo_len l 0 (by omega)
  have h2 := OwnB.of_heap (w := w2) (base := w.heap.size) (Nat.le_refl _) (l := wideTo l 0) (by
   intro x hx
   rcases List.mem_append.1 hx with h | h
   ·exact HTS.out.1 x h
   ·simp at h; omega) (by rw [h1]; exact hml) HH.out
  rw [h1] at h2
  exact h2
 clear HH HTS HI hi hz0 hz1 hz2 hby hml H0
 go_loopw [5] (fun i wr => ∃ k : Nat, k ≤ 3 ∧ i = .int .i64 (l.length + k : Nat) ∧ Hid (OwnB wr w.heap.size (.slice (some ⟨w.heap.size, 0, none⟩) (l.length + 3) (l.length + 3)) (wideTo l k)) ∧ Below w.heap.size w wr) (fun i _ => l.length + 3 - (intOf i).toNat)
 case atStart => exact ⟨0, by omega, rfl, hO0.out, HB2.out⟩
 case round =>
  obtain ⟨k, hk, rfl, HO, hbr⟩ := hrel
  clear hO0 HB2
  by_cases hlt : k < 3
  ·have hwl := wideTo_len l k hk
   have ho := HO.out
   rw [← hwl] at ho
   have hj : l.length + k < (wideTo l k).length := by omega
   obtain ⟨A', c', e', _, _, _, hts⟩ := ho.form_
   injection e' with e1 e2 e3
   subst e1
   obtain ⟨b, off, x, e4, hb, hx, hd, hcell⟩ := hts.at_ hj
   injection e4 with e4
   injection e4 with e5 e6
   subst e5 e6
   rw [Nat.zero_add] at hcell
   obtain ⟨hs1, hs2⟩ := ho.set_ (l.length + k) (x := 7) (by omega)
   have hfr : wr.frozen? ⟨w.heap.size, l.length + k, none⟩ = false := ho.2.frozenAt _
   rw [wideTo_set l k hlt] at hs1
   have HS := Lib.hid hs1
   have HL1 := Lib.hid (wideTo_len l (k + 1) (by omega))
   have HL2 := Lib.hid hwl
   clear hts hd e3 e2 hs1 hs2 ho hwl HO hj hx
   go_wp2
   have hs := HS.out
   rw [HL1.out, HL2.out] at hs
   exact ⟨⟨k + 1, by omega, congrArg (Value.int IntKind.i64) (by omega), hs, hbr.setCell (Nat.le_refl _) _⟩, by simp [intOf]; omega⟩
  ·have hk3 : k = 3 := by omega
   subst hk3
   go_wp2
   go_ret
   exact ⟨w.heap.size, rfl, (by simpa [wideTo] using HO.out), hbr⟩
end Go.Proofs.YtiafeniflkikeaaGreat
namespace Go.Proofs.YtiafeniflkikeaaGreat
section
variable {P : Program} {ops : Array Oper} {rest : List Oper} {d : Option Tmp} {ty : TypeId} {pos : String} {aft : Array Edge} {a : Act} {w : World} {Q : Exit → Act → World → Prop}
theorem gate_load (t : TypeId) {x : Operand} (h : wpList P ops Q ({ dst := d, op := .load t x, type := ty, pos := pos, after := aft, guard := none } :: rest) a w) : wpList P ops Q ({ dst := d, op := .load t x, type := ty, pos := pos, after := aft, guard := none } :: rest) a w := h
theorem gate_loadG (t : TypeId) {x : Operand} {g : Nat × Bool} (h : wpList P ops Q ({ dst := d, op := .load t x, type := ty, pos := pos, after := aft, guard := some g } :: rest) a w) : wpList P ops Q ({ dst := d, op := .load t x, type := ty, pos := pos, after := aft, guard := some g } :: rest) a w := h
theorem gate_store (t : TypeId) {x y : Operand} (h : wpList P ops Q ({ dst := d, op := .store t x y, type := ty, pos := pos, after := aft, guard := none } :: rest) a w) : wpList P ops Q ({ dst := d, op := .store t x y, type := ty, pos := pos, after := aft, guard := none } :: rest) a w := h
theorem gate_build (t : TypeId) {x : Array (Nat × Operand)} (h : wpList P ops Q ({ dst := d, op := .build t x, type := ty, pos := pos, after := aft, guard := none } :: rest) a w) : wpList P ops Q ({ dst := d, op := .build t x, type := ty, pos := pos, after := aft, guard := none } :: rest) a w := h
end
end Go.Proofs.YtiafeniflkikeaaGreat
namespace Go.Proofs.YtiafeniflkikeaaGreat
open Go.RowKit
set_option linter.unusedVariables false
def IsGot (r : Nat × Nat × Nat) (w : World) (e : Ending) (w' : World) : Prop :=
 e = .returned (.tuple #[.int .u64 r.1, .int .i64 r.2.1, .int .i64 r.2.2]) ∧ Below w.heap.size w w'
theorem IsGot.of {w w' : World} {r : Nat × Nat × Nat} {n k e : Nat} (h : r = (n, k, e)) (hb : Below w.heap.size w w') : IsGot r w (.returned (.tuple #[.int .u64 (n : Nat), .int .i64 (k : Nat), .int .i64 (e : Nat)])) w' := by
 subst h; exact ⟨rfl, hb⟩
set_option maxHeartbeats 400000 in
theorem get_arg (A : Option Addr) (l : List Nat) (cap : Nat) (a : Int) (w : World) (hlen : l.length ≤ maxLen) (h : a < 0 ∨ (l.length : Int) < a) :
  Calls Tryz.prog 131 #[.slice A l.length cap, .int .i64 a] w (IsGot (Mt.get l a) w) := by
 have HR := Lib.hid (Mt.get_arg h)
 unfold maxLen at hlen
 by_cases h1 : a < 0
 ·clear h
  go_enter Tryz.func131, Tryz.ntmps131
  go_wp2
  go_step3
  go_wp2
  rw [Exit.noGoto_ret]
  go_ret3
  exact IsGot.of HR.out (Below.refl _ _)
 ·have h2 : (l.length : Int) < a := by omega
  clear h
  go_enter Tryz.func131, Tryz.ntmps131
  go_wp2
  go_step3
  go_wp2
  rw [Exit.noGoto_ret]
  go_ret3
  exact IsGot.of HR.out (Below.refl _ _)
set_option maxHeartbeats 400000 in
theorem get_end (A : Option Addr) (l : List Nat) (cap : Nat) (w : World) (hlen : l.length ≤ cap) (hcap : cap ≤ maxLen) :
  Calls Tryz.prog 131 #[.slice A l.length cap, .int .i64 l.length] w (IsGot (Mt.get l l.length) w) := by
 have HR := Lib.hid (Mt.get_err (l := l) (a := l.length) (e := 4) (by omega) (by simp [Mt.rd_nil]) (by decide))
 unfold maxLen at hcap
 by_cases hc : cap = l.length
 ·subst hc
  go_enter Tryz.func131, Tryz.ntmps131
  go_wp2
  go_step3
  go_wp2
  go_step3
  go_wp2
  refine wp_loop_rounds 1 ?_
  rw [rounds_succ]
  go_wp2
  rw [Exit.noGoto_ret]
  go_ret3
  exact IsGot.of HR.out (Below.refl _ _)
 ·go_enter Tryz.func131, Tryz.ntmps131
  go_wp2
  go_step3
  go_wp2
  go_step3
  go_wp2
  refine wp_loop_rounds 1 ?_
  rw [rounds_succ]
  go_wp2
  rw [Exit.noGoto_ret]
  go_ret3
  exact IsGot.of HR.out (Below.refl _ _)
set_option maxHeartbeats 2000000 in
set_option maxRecDepth 100000 in
theorem get_some (l : List Nat) (cap b off B a : Nat) (w : World) (hlen : l.length ≤ cap) (hcap : cap ≤ maxLen) (ha : a < l.length) (hl : Bts w B (some ⟨b, off, none⟩) l) :
  Calls Tryz.prog 131 #[.slice (some ⟨b, off, none⟩) l.length cap, .int .i64 a] w (IsGot (Mt.get l a) w) := by
 have hle : a ≤ l.length := by omega
 unfold maxLen at hcap
 have hne : ¬ cap = a := by omega
 obtain ⟨_, _, e0, _, hcell⟩ := hl.2 (by omega)
 injection e0 with e0
 injection e0 with e1 e2
 subst e1 e2
 have hlt := hl.1
 have HC := Lib.hid hcell
 have HL := Lib.hid hlt
 clear hcell hlt hl
 go_enter Tryz.func131, Tryz.ntmps131
 go_wp2
 go_step3
 go_wp2
 go_step3
 go_wp2
 go_loop [4, 7, 22] (fun x z i => ∃ (k X : Nat), k ≤ 9 ∧ a + k ≤ l.length ∧ i = .int .i64 k ∧ z = .int .i64 0 ∧ x = .int .u64 X ∧ Hid (X < 128 ^ k) ∧ Hid (Mt.rd 0 0 (l.drop a) = Mt.rd k X (l.drop (a + k)))) (fun _ _ i => l.length - (intOf i).toNat)
 case atStart => exact ⟨0, 0, by omega, by omega, rfl, rfl, rfl, by simp [Hid], rfl⟩
 case round =>
  obtain ⟨k, X, hk9, hk, rfl, rfl, rfl, HX, HR⟩ := hrel
  by_cases hin : a + k < l.length
  ·have hd := List.drop_eq_getElem_cons hin
   have hcell := HC.out (a + k) _ (List.getElem?_eq_getElem hin)
   have hc := HL.out _ (List.getElem_mem hin)
   generalize hcc : l[a + k] = c at hd hcell hc
   have HD : Hid (Mt.rd 0 0 (l.drop a) = Mt.rd k X (c :: l.drop (a + k + 1))) := by unfold Hid; rw [HR.out, hd]
   rw [← Nat.add_assoc] at hcell
   have hkin : k < l.length - a := by omega
   clear hcc hd HR HC HL
   by_cases h1 : k = 9 ∧ 1 < c
   ·have HE := Lib.hid (HD.out.trans (Mt.rd_form (.inl h1)))
    obtain ⟨rfl, h1c⟩ := h1
    clear HD HX
    go_wp2
    go_ret3
    exact IsGot.of (Mt.get_err hle HE.out (by decide)) (Below.refl _ _)
   ·by_cases h2 : 0 < k ∧ c = 0
    ·have HE := Lib.hid (HD.out.trans (Mt.rd_form (.inr h2)))
     obtain ⟨h2k, rfl⟩ := h2
     clear HD HX
     by_cases h9 : k = 9
     ·subst h9
      go_wp2
      go_ret3
      exact IsGot.of (Mt.get_err hle HE.out (by decide)) (Below.refl _ _)
     ·go_wp2
      go_ret3
      exact IsGot.of (Mt.get_err hle HE.out (by decide)) (Below.refl _ _)
    ·by_cases h3 : c < 128
     ·have HE := Lib.hid (HD.out.trans (Mt.rd_last (by omega) h3))
      clear HD
      by_cases h9 : 8 < k
      ·have h1c : c < 2 := by omega
       have hc0 : 0 < c := by omega
       have HV := Lib.hid (or_step k X c hk9 HX.out hc (by omega))
       clear h1 h2
       go_wp2
       go_ret3
       rw [HV.out, Nat.mod_eq_of_lt h3]
       obtain rfl : k = 9 := by omega
       exact IsGot.of (Mt.get_ok hle HE.out) (Below.refl _ _)
      ·have h9' : k < 9 := by omega
       have HV := Lib.hid (or_step k X c hk9 HX.out hc (by omega))
       by_cases hk0 : k < 1
       ·clear h1 h2 h9
        go_wp2
        go_ret3
        rw [HV.out, Nat.mod_eq_of_lt h3]
        exact IsGot.of (Mt.get_ok hle HE.out) (Below.refl _ _)
       ·have hc0 : 0 < c := by omega
        have hk0' : 0 < k := by omega
        clear h1 h2 hk0 h9
        go_wp2
        go_ret3
        rw [HV.out, Nat.mod_eq_of_lt h3]
        exact IsGot.of (Mt.get_ok hle HE.out) (Below.refl _ _)
     ·have h9 : k < 9 := by omega
      have HE := Lib.hid (HD.out.trans (Mt.rd_on h1 (by omega)))
      have HV := Lib.hid (or_step k X c hk9 HX.out hc (by omega))
      have HX2 := Lib.hid (Mt.step_lt (c := c) HX.out)
      clear HD h1 h2 HX
      go_wp2
      all_goals
       refine ⟨⟨_, _, _, _, _, _, _, ?rel, rfl, rfl, rfl, rfl, rfl, rfl, rfl⟩, ?measure⟩
       case rel => exact ⟨k + 1, by omega, by omega, by go_num, rfl, X + c % 128 * 128 ^ k, by rw [HV.out], HX2.out, HE.out⟩
       case measure => simp [intOf]; omega
  ·have hk0 : a + k = l.length := by omega
   have HE : Hid (Mt.rd 0 0 (l.drop a) = (0, 0, 4)) := by unfold Hid; rw [HR.out, hk0]; simp [Mt.rd_nil]
   have hkk : l.length - a ≤ k := by omega
   clear HR HC HL HX hk0
   go_wp2
   go_ret3
   exact IsGot.of (Mt.get_err hle HE.out (by decide)) (Below.refl _ _)
theorem get_any (v : Value) (l : List Nat) (B : Nat) (a : Int) (w : World) (h : Bv w B v l) :
  Calls Tryz.prog 131 #[v, .int .i64 a] w (IsGot (Mt.get l a) w) := by
 obtain ⟨A, c, rfl, h1, h2, h3, h4⟩ := h
 by_cases ha : a < 0 ∨ (l.length : Int) < a
 ·exact get_arg A l c a w (by omega) ha
 ·obtain ⟨k, rfl⟩ := Int.eq_ofNat_of_zero_le (show 0 ≤ a by omega)
  by_cases hk : k = l.length
  ·subst hk
   exact get_end A l c w h1 h2
  ·have hlt : k < l.length := by omega
   obtain ⟨b, off, rfl, _⟩ := h4.2 (by omega)
   exact get_some l c b off B k w h1 h2 hlt h4
end Go.Proofs.YtiafeniflkikeaaGreat
