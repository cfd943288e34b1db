/-
  SfPro: Package simfs' side.
  PfNil: simfs: a disk that is not there, and one that no call made.
  SfDoNo: stooklaw14.do: a deed, of no disk.
-/
import Derived.Test.YtmcbjcbnckpfkaaPn20
import Derived.Test.YtmcbjcbnckpfkaaPn16
import Derived.Test.YtmcbjcbnckpfkaaPn21
import Derived.Test.YtmcbjcbnckpfkaaPn22
import Derived.Test.YtmcbjcbnckpfkaaPn19
import Derived.Test.YtmcbjcbnckpfkaaPn04
import Derived.BigRegion

namespace Go.Proofs.Ytmcbjcbnckpfkaa
open Go.RowKit
set_option linter.unusedVariables false
/-- No disk, or one that no call made. -/
def NoDisk (w : World) (v : Value) : Prop := v = .pointer none ∨ ∃ b, v = .pointer (some ⟨b, 0, none⟩) ∧ w.cell? ⟨b, 1, none⟩ = some (.map none)
theorem NoDisk.below {w w' : World} {v : Value} {B : Nat} (h : NoDisk w v) (hb : Below B w w') (hv : ∀ b, v = .pointer (some ⟨b, 0, none⟩) → b < B) : NoDisk w' v := by
  rcases h with h | ⟨b, h1, h2⟩
  · exact .inl h
  · exact .inr ⟨b, h1, (hb.cell (p := ⟨b, 1, none⟩) (hv b h1)).trans h2⟩
section
variable {w : World} {v : Value}
set_option maxHeartbeats 1000000 in
set_option maxRecDepth 100000 in
theorem pmade_no (h : NoDisk w v) : Calls Try.prog 49 #[v] w (fun e w' => e = .returned (.bool false) ∧ w = w') := by
  rcases h with rfl | ⟨b, rfl, h⟩
  · go_enter Try.func49, Try.ntmps49
    go_wp2
    go_ret
    exact ⟨rfl, rfl⟩
  · exact pmade_cell none h
set_option maxHeartbeats 1000000 in
set_option maxRecDepth 100000 in
theorem prefusal_no (h : NoDisk w v) : Calls Try.prog 39 #[v] w (fun e w' => e = .returned (.int .i64 1) ∧ w = w') := by
  have C := Lib.hid (pmade_no h)
  clear h
  go_enter Try.func39, Try.ntmps39
  go_wp2_with fail
  refine C.out.mono ?_
  rintro e1 w1 ⟨rfl, rfl⟩
  clear C
  go_wp2
  go_ret
  exact ⟨rfl, rfl⟩
set_option maxHeartbeats 1000000 in
set_option maxRecDepth 100000 in
theorem pfind_no (h : NoDisk w v) (s : Value) : Calls Try.prog 42 #[v, s] w (fun e w' => e = .returned (.tuple #[.int .i64 0, .int .i64 1]) ∧ w = w') := by
  have C := Lib.hid (prefusal_no h)
  clear h
  go_enter Try.func42, Try.ntmps42
  go_wp2_with fail
  refine C.out.mono ?_
  rintro e1 w1 ⟨rfl, rfl⟩
  clear C
  go_wp2
  go_ret2
  exact ⟨rfl, rfl⟩
set_option maxHeartbeats 1000000 in
set_option maxRecDepth 100000 in
theorem pfindPlace_no (h : NoDisk w v) (s a : Value) : Calls Try.prog 56 #[v, s, a] w (fun e w' => e = .returned (.tuple #[.int .i64 0, .int .i64 1]) ∧ w = w') := by
  have C := Lib.hid (pfind_no h s)
  clear h
  go_enter Try.func56, Try.ntmps56
  go_wp2_with fail
  refine C.out.mono ?_
  rintro e1 w1 ⟨rfl, rfl⟩
  clear C
  go_wp2
  go_ret2
  exact ⟨rfl, rfl⟩
set_option maxHeartbeats 1000000 in
set_option maxRecDepth 100000 in
theorem pcreate_no (h : NoDisk w v) (s : Value) : Calls Try.prog 14 #[v, s] w (fun e w' => e = .returned (.int .i64 1) ∧ w = w') := by
  have C := Lib.hid (prefusal_no h)
  clear h
  go_enter Try.func14, Try.ntmps14
  go_wp2_with fail
  refine C.out.mono ?_
  rintro e1 w1 ⟨rfl, rfl⟩
  clear C
  go_wp2
  go_ret
  exact ⟨rfl, rfl⟩
set_option maxHeartbeats 1000000 in
set_option maxRecDepth 100000 in
theorem pappend_no (h : NoDisk w v) (s a : Value) : Calls Try.prog 15 #[v, s, a] w (fun e w' => e = .returned (.int .i64 1) ∧ w = w') := by
  have C := Lib.hid (pfind_no h s)
  clear h
  go_enter Try.func15, Try.ntmps15
  go_wp2_with fail
  refine C.out.mono ?_
  rintro e1 w1 ⟨rfl, rfl⟩
  clear C
  go_wp2
  go_ret
  exact ⟨rfl, rfl⟩
set_option maxHeartbeats 1000000 in
set_option maxRecDepth 100000 in
theorem pwrite_no (h : NoDisk w v) (s a x : Value) : Calls Try.prog 22 #[v, s, a, x] w (fun e w' => e = .returned (.int .i64 1) ∧ w = w') := by
  have C := Lib.hid (pfindPlace_no h s a)
  clear h
  go_enter Try.func22, Try.ntmps22
  go_wp2_with fail
  refine C.out.mono ?_
  rintro e1 w1 ⟨rfl, rfl⟩
  clear C
  go_wp2
  go_ret
  exact ⟨rfl, rfl⟩
set_option maxHeartbeats 1000000 in
set_option maxRecDepth 100000 in
theorem pcut_no (h : NoDisk w v) (s a : Value) : Calls Try.prog 47 #[v, s, a] w (fun e w' => e = .returned (.int .i64 1) ∧ w = w') := by
  have C := Lib.hid (pfindPlace_no h s a)
  clear h
  go_enter Try.func47, Try.ntmps47
  go_wp2_with fail
  refine C.out.mono ?_
  rintro e1 w1 ⟨rfl, rfl⟩
  clear C
  go_wp2
  go_ret
  exact ⟨rfl, rfl⟩
set_option maxHeartbeats 1000000 in
set_option maxRecDepth 100000 in
theorem prename_no (h : NoDisk w v) (s a : Value) : Calls Try.prog 35 #[v, s, a] w (fun e w' => e = .returned (.int .i64 1) ∧ w = w') := by
  have C := Lib.hid (pfind_no h s)
  clear h
  go_enter Try.func35, Try.ntmps35
  go_wp2_with fail
  refine C.out.mono ?_
  rintro e1 w1 ⟨rfl, rfl⟩
  clear C
  go_wp2
  go_ret
  exact ⟨rfl, rfl⟩
set_option maxHeartbeats 1000000 in
set_option maxRecDepth 100000 in
theorem premove_no (h : NoDisk w v) (s : Value) : Calls Try.prog 48 #[v, s] w (fun e w' => e = .returned (.int .i64 1) ∧ w = w') := by
  have C := Lib.hid (pfind_no h s)
  clear h
  go_enter Try.func48, Try.ntmps48
  go_wp2_with fail
  refine C.out.mono ?_
  rintro e1 w1 ⟨rfl, rfl⟩
  clear C
  go_wp2
  go_ret
  exact ⟨rfl, rfl⟩
set_option maxHeartbeats 1000000 in
set_option maxRecDepth 100000 in
theorem psync_no (h : NoDisk w v) (s : Value) : Calls Try.prog 16 #[v, s] w (fun e w' => e = .returned (.int .i64 1) ∧ w = w') := by
  have C := Lib.hid (pfind_no h s)
  clear h
  go_enter Try.func16, Try.ntmps16
  go_wp2_with fail
  refine C.out.mono ?_
  rintro e1 w1 ⟨rfl, rfl⟩
  clear C
  go_wp2
  go_ret
  exact ⟨rfl, rfl⟩
set_option maxHeartbeats 1000000 in
set_option maxRecDepth 100000 in
theorem psyncDir_no (h : NoDisk w v) : Calls Try.prog 17 #[v] w (fun e w' => e = .returned (.int .i64 1) ∧ w = w') := by
  have C := Lib.hid (prefusal_no h)
  clear h
  go_enter Try.func17, Try.ntmps17
  go_wp2_with fail
  refine C.out.mono ?_
  rintro e1 w1 ⟨rfl, rfl⟩
  clear C
  go_wp2
  go_ret
  exact ⟨rfl, rfl⟩
set_option maxHeartbeats 1000000 in
set_option maxRecDepth 100000 in
theorem parm_no (h : NoDisk w v) (a : Value) : Calls Try.prog 37 #[v, a] w (fun e w' => e = .returned (.int .i64 1) ∧ w = w') := by
  have C := Lib.hid (prefusal_no h)
  clear h
  go_enter Try.func37, Try.ntmps37
  go_wp2_with fail
  refine C.out.mono ?_
  rintro e1 w1 ⟨rfl, rfl⟩
  clear C
  go_wp2
  go_ret
  exact ⟨rfl, rfl⟩
set_option maxHeartbeats 1000000 in
set_option maxRecDepth 100000 in
theorem pread_no (h : NoDisk w v) (s a x : Value) : Calls Try.prog 20 #[v, s, a, x] w (fun e w' => e = .returned (.tuple #[.slice none 0 0, .int .i64 1]) ∧ w = w') := by
  have C := Lib.hid (pfind_no h s)
  clear h
  go_enter Try.func20, Try.ntmps20
  go_wp2_with fail
  refine C.out.mono ?_
  rintro e1 w1 ⟨rfl, rfl⟩
  clear C
  go_wp2
  go_ret2
  exact ⟨rfl, rfl⟩
set_option maxHeartbeats 1000000 in
set_option maxRecDepth 100000 in
theorem psize_no (h : NoDisk w v) (s : Value) : Calls Try.prog 23 #[v, s] w (fun e w' => e = .returned (.tuple #[.int .i64 0, .int .i64 1]) ∧ w = w') := by
  have C := Lib.hid (pfind_no h s)
  clear h
  go_enter Try.func23, Try.ntmps23
  go_wp2_with fail
  refine C.out.mono ?_
  rintro e1 w1 ⟨rfl, rfl⟩
  clear C
  go_wp2
  go_ret2
  exact ⟨rfl, rfl⟩
set_option maxHeartbeats 1000000 in
set_option maxRecDepth 100000 in
theorem pnames_no (h : NoDisk w v) : Calls Try.prog 25 #[v] w (fun e w' => e = .returned (.slice none 0 0) ∧ w = w') := by
  have C := Lib.hid (prefusal_no h)
  clear h
  go_enter Try.func25, Try.ntmps25
  go_wp2_with fail
  refine C.out.mono ?_
  rintro e1 w1 ⟨rfl, rfl⟩
  clear C
  go_wp2
  go_ret
  exact ⟨rfl, rfl⟩
set_option maxHeartbeats 1000000 in
set_option maxRecDepth 100000 in
theorem pused_no (h : NoDisk w v) : Calls Try.prog 26 #[v] w (fun e w' => e = .returned (.int .i64 0) ∧ w = w') := by
  have C := Lib.hid (prefusal_no h)
  clear h
  go_enter Try.func26, Try.ntmps26
  go_wp2_with fail
  refine C.out.mono ?_
  rintro e1 w1 ⟨rfl, rfl⟩
  clear C
  go_wp2
  go_ret
  exact ⟨rfl, rfl⟩
set_option maxHeartbeats 1000000 in
set_option maxRecDepth 100000 in
theorem proom_no (h : NoDisk w v) : Calls Try.prog 27 #[v] w (fun e w' => e = .returned (.int .i64 0) ∧ w = w') := by
  have C := Lib.hid (prefusal_no h)
  clear h
  go_enter Try.func27, Try.ntmps27
  go_wp2_with fail
  refine C.out.mono ?_
  rintro e1 w1 ⟨rfl, rfl⟩
  clear C
  go_wp2
  go_ret
  exact ⟨rfl, rfl⟩
set_option maxHeartbeats 1000000 in
set_option maxRecDepth 100000 in
theorem pacts_no (h : NoDisk w v) : Calls Try.prog 28 #[v] w (fun e w' => e = .returned (.int .i64 0) ∧ w = w') := by
  have C := Lib.hid (pmade_no h)
  clear h
  go_enter Try.func28, Try.ntmps28
  go_wp2_with fail
  refine C.out.mono ?_
  rintro e1 w1 ⟨rfl, rfl⟩
  clear C
  go_wp2
  go_ret
  exact ⟨rfl, rfl⟩
set_option maxHeartbeats 1000000 in
set_option maxRecDepth 100000 in
theorem pdead_no (h : NoDisk w v) : Calls Try.prog 29 #[v] w (fun e w' => e = .returned (.bool false) ∧ w = w') := by
  have C := Lib.hid (pmade_no h)
  clear h
  go_enter Try.func29, Try.ntmps29
  go_wp2_with fail
  refine C.out.mono ?_
  rintro e1 w1 ⟨rfl, rfl⟩
  clear C
  go_wp2
  go_ret
  exact ⟨rfl, rfl⟩
set_option maxHeartbeats 1000000 in
set_option maxRecDepth 100000 in
theorem pcopy_no (h : NoDisk w v) : Calls Try.prog 24 #[v] w (fun e w' => e = .returned (.pointer none) ∧ w = w') := by
  have C := Lib.hid (pmade_no h)
  clear h
  go_enter Try.func24, Try.ntmps24
  go_wp2_with fail
  refine C.out.mono ?_
  rintro e1 w1 ⟨rfl, rfl⟩
  clear C
  go_wp2
  go_ret
  exact ⟨rfl, rfl⟩
set_option maxHeartbeats 1000000 in
set_option maxRecDepth 100000 in
theorem pfail_no (h : NoDisk w v) (a : Value) : Calls Try.prog 19 #[v, a] w (fun e w' => e = .returned (.tuple #[.pointer none, .int .i64 1]) ∧ w = w') := by
  have C := Lib.hid (pmade_no h)
  clear h
  go_enter Try.func19, Try.ntmps19
  go_wp2_with fail
  refine C.out.mono ?_
  rintro e1 w1 ⟨rfl, rfl⟩
  clear C
  go_wp2
  go_ret2
  exact ⟨rfl, rfl⟩
end
end Go.Proofs.Ytmcbjcbnckpfkaa
namespace Go.Proofs.Ytmcbjcbnckpfkaa
open Go.RowKit
set_option linter.unusedVariables false
theorem NoDisk.alloc {w : World} {v : Value} (h : NoDisk w v) (o : Obj) : NoDisk (w.alloc o) v := by
  rcases h with h | ⟨b, h1, h2⟩
  · exact .inl h
  · exact .inr ⟨b, h1, (alloc_turned w o).cell h2 (fun h => h)⟩
set_option maxHeartbeats 2000000 in
set_option maxRecDepth 100000 in
theorem pdo_no {w : World} {v : Value} (h : NoDisk w v) (x : Raw) (hc : x.call ≤ 8) :
    Calls Try.prog 18 #[v, .agg (deedC x)] w (fun e w' => e = .returned (.int .i64 1) ∧ Below w.heap.size w w') := by
  obtain ⟨call, name, to, at_, A, n, c⟩ := x
  simp only at hc
  have hD := h.alloc (.cells #[.int .u8 (call : Nat), .string name, .string to, .int .i64 at_, .slice A n c] 35)
  have HB : Hid (Below w.heap.size w (w.alloc (.cells #[.int .u8 (call : Nat), .string name, .string to, .int .i64 at_, .slice A n c] 35))) := (Below.refl _ _).alloc (Nat.le_refl _) _
  unfold deedC
  clear h
  by_cases k0 : call = 0
  · have p0 : ((call : Int) == 0) = true := by rw [beq_iff_eq]; omega
    have HC := Lib.hid (pcreate_no hD (.string name))
    clear hD k0 hc
    go_enter Try.func18, Try.ntmps18
    go_wp2_with fail
    ((with_reducible refine HC.out.mono ?_); rintro e w2 ⟨rfl, rfl⟩)
    clear HC
    go_wp2
    go_ret
    exact ⟨rfl, HB.out⟩
  · have q0 : ((call : Int) == 0) = false := by rw [beq_eq_false_iff_ne]; omega
    by_cases k1 : call = 1
    · have p1 : ((call : Int) == 1) = true := by rw [beq_iff_eq]; omega
      have HC := Lib.hid (pappend_no hD (.string name) (.slice A n c))
      clear hD k0 k1 hc
      go_enter Try.func18, Try.ntmps18
      go_wp2_with fail
      ((with_reducible refine HC.out.mono ?_); rintro e w2 ⟨rfl, rfl⟩)
      clear HC
      go_wp2
      go_ret
      exact ⟨rfl, HB.out⟩
    · have q1 : ((call : Int) == 1) = false := by rw [beq_eq_false_iff_ne]; omega
      by_cases k2 : call = 2
      · have p2 : ((call : Int) == 2) = true := by rw [beq_iff_eq]; omega
        have HC := Lib.hid (pwrite_no hD (.string name) (.int .i64 at_) (.slice A n c))
        clear hD k0 k1 k2 hc
        go_enter Try.func18, Try.ntmps18
        go_wp2_with fail
        ((with_reducible refine HC.out.mono ?_); rintro e w2 ⟨rfl, rfl⟩)
        clear HC
        go_wp2
        go_ret
        exact ⟨rfl, HB.out⟩
      · have q2 : ((call : Int) == 2) = false := by rw [beq_eq_false_iff_ne]; omega
        by_cases k3 : call = 3
        · have p3 : ((call : Int) == 3) = true := by rw [beq_iff_eq]; omega
          have HC := Lib.hid (pcut_no hD (.string name) (.int .i64 at_))
          clear hD k0 k1 k2 k3 hc
          go_enter Try.func18, Try.ntmps18
          go_wp2_with fail
          ((with_reducible refine HC.out.mono ?_); rintro e w2 ⟨rfl, rfl⟩)
          clear HC
          go_wp2
          go_ret
          exact ⟨rfl, HB.out⟩
        · have q3 : ((call : Int) == 3) = false := by rw [beq_eq_false_iff_ne]; omega
          by_cases k4 : call = 4
          · have p4 : ((call : Int) == 4) = true := by rw [beq_iff_eq]; omega
            have HC := Lib.hid (prename_no hD (.string name) (.string to))
            clear hD k0 k1 k2 k3 k4 hc
            go_enter Try.func18, Try.ntmps18
            go_wp2_with fail
            ((with_reducible refine HC.out.mono ?_); rintro e w2 ⟨rfl, rfl⟩)
            clear HC
            go_wp2
            go_ret
            exact ⟨rfl, HB.out⟩
          · have q4 : ((call : Int) == 4) = false := by rw [beq_eq_false_iff_ne]; omega
            by_cases k5 : call = 5
            · have p5 : ((call : Int) == 5) = true := by rw [beq_iff_eq]; omega
              have HC := Lib.hid (premove_no hD (.string name))
              clear hD k0 k1 k2 k3 k4 k5 hc
              go_enter Try.func18, Try.ntmps18
              go_wp2_with fail
              ((with_reducible refine HC.out.mono ?_); rintro e w2 ⟨rfl, rfl⟩)
              clear HC
              go_wp2
              go_ret
              exact ⟨rfl, HB.out⟩
            · have q5 : ((call : Int) == 5) = false := by rw [beq_eq_false_iff_ne]; omega
              by_cases k6 : call = 6
              · have p6 : ((call : Int) == 6) = true := by rw [beq_iff_eq]; omega
                have HC := Lib.hid (psync_no hD (.string name))
                clear hD k0 k1 k2 k3 k4 k5 k6 hc
                go_enter Try.func18, Try.ntmps18
                go_wp2_with fail
                ((with_reducible refine HC.out.mono ?_); rintro e w2 ⟨rfl, rfl⟩)
                clear HC
                go_wp2
                go_ret
                exact ⟨rfl, HB.out⟩
              · have q6 : ((call : Int) == 6) = false := by rw [beq_eq_false_iff_ne]; omega
                by_cases k7 : call = 7
                · have p7 : ((call : Int) == 7) = true := by rw [beq_iff_eq]; omega
                  have HC := Lib.hid (psyncDir_no hD)
                  clear hD k0 k1 k2 k3 k4 k5 k6 k7 hc
                  go_enter Try.func18, Try.ntmps18
                  go_wp2_with fail
                  ((with_reducible refine HC.out.mono ?_); rintro e w2 ⟨rfl, rfl⟩)
                  clear HC
                  go_wp2
                  go_ret
                  exact ⟨rfl, HB.out⟩
                · have q7 : ((call : Int) == 7) = false := by rw [beq_eq_false_iff_ne]; omega
                  have p8 : ((call : Int) == 8) = true := by rw [beq_iff_eq]; omega
                  have HC := Lib.hid (parm_no hD (.int .i64 at_))
                  clear hD k0 k1 k2 k3 k4 k5 k6 k7 hc
                  go_enter Try.func18, Try.ntmps18
                  go_wp2_with fail
                  ((with_reducible refine HC.out.mono ?_); rintro e w2 ⟨rfl, rfl⟩)
                  clear HC
                  go_wp2
                  go_ret
                  exact ⟨rfl, HB.out⟩
end Go.Proofs.Ytmcbjcbnckpfkaa
