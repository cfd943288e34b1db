/-
  Arrays of words and of bytes, as Go's cells; what Press's walk takes of them.
-/
import Derived.Test.YtejipcnihgpdhaaShConst
import Derived.Test.YtejipcnihgpdhaaRow
import Derived.Test.YtejipcnihgpdhaaApp
import Derived.BigQuiet
namespace Go.Proofs.Ytejipcnihgpdhaa
open Go.RowKit
set_option linter.unusedVariables false

theorem shr3 (x : Sh.W32) : (((nt x : Nat) : Int) / (8 : Int)) = (((nt (x >>> 3) : Nat)) : Int) := shr_bv x 3
theorem shr10 (x : Sh.W32) : (((nt x : Nat) : Int) / (1024 : Int)) = (((nt (x >>> 10) : Nat)) : Int) := shr_bv x 10
theorem add3_bv (x y z : Sh.W32) : ((((nt x : Nat) : Int) + ((nt y : Nat) : Int) + ((nt z : Nat) : Int)) % (4294967296 : Int)) = ((nt (x + y + z) : Nat) : Int) := by
  unfold nt
  rw [BitVec.toNat_add, BitVec.toNat_add]; omega
theorem shl24w (x : Sh.W32) : IntKind.u32.wrap (((nt x : Nat) : Int) * 16777216) = ((nt (x <<< 24) : Nat) : Int) := by rw [IntKind.wrap_u32]; exact shl_bv x 24
theorem shl16w (x : Sh.W32) : IntKind.u32.wrap (((nt x : Nat) : Int) * 65536) = ((nt (x <<< 16) : Nat) : Int) := by rw [IntKind.wrap_u32]; exact shl_bv x 16
theorem shl8w (x : Sh.W32) : IntKind.u32.wrap (((nt x : Nat) : Int) * 256) = ((nt (x <<< 8) : Nat) : Int) := by rw [IntKind.wrap_u32]; exact shl_bv x 8
theorem addw (x y : Sh.W32) : IntKind.u32.wrap (((nt x : Nat) : Int) + ((nt y : Nat) : Int)) = ((nt (x + y) : Nat) : Int) := by rw [IntKind.wrap_u32]; exact add_bv x y
theorem size24 : (Try.prog.info? 24).map (·.size) = some 64 := by kernel_rfl
/-- Bytes as the cells of an array. -/
def bvs (l : List Nat) : Array Value := (l.map u8).toArray
theorem bvs_size (l : List Nat) : (bvs l).size = l.length := by simp [bvs]
theorem bvs_at (l : List Nat) {k : Nat} (h : k < l.length) : (bvs l)[k]? = some (.int .u8 (l.getD k 0 : Nat)) := by
  simp [bvs, u8, List.getD, List.getElem?_eq_getElem h]
theorem nt_of {x : Nat} (h : x < 4294967296) : nt (BitVec.ofNat 32 x) = x := by unfold nt; rw [BitVec.toNat_ofNat]; exact Nat.mod_eq_of_lt h
theorem nt_mod (x : Sh.W32) : ((nt x : Nat) : Int) % 4294967296 = ((nt x : Nat) : Int) := by have := nt_lt x; omega
/-- The words' array, the first k of them written. -/
def sch (b : List Nat) (k : Nat) : Array Value := wvs (Sh.sched b k ++ List.replicate (64 - k) 0)
theorem sch_size (b : List Nat) {k : Nat} (h : k ≤ 64) : (sch b k).size = 64 := by simp [sch, wvs, Sh.sched_len]; omega
theorem sch_at (b : List Nat) {j k : Nat} (h : j < k) : (sch b k)[j]? = some (.int .u32 (nt ((Sh.sched b k).getD j 0) : Nat)) := by
  have h1 : j < (Sh.sched b k).length := by rw [Sh.sched_len]; exact h
  have h2 := wvs_at (Sh.sched b k ++ List.replicate (64 - k) 0) (k := j) (by rw [List.length_append]; omega)
  have e : (Sh.sched b k ++ List.replicate (64 - k) (0 : Sh.W32)).getD j 0 = (Sh.sched b k).getD j 0 := by
    rw [List.getD_eq_getElem?_getD, List.getElem?_append_left h1, List.getD_eq_getElem?_getD]
  rw [e] at h2
  exact h2
theorem sch_old (b : List Nat) {k : Nat} (h : k < 64) : (sch b k)[k]? = some (.int .u32 0) := by
  have h2 := wvs_at (Sh.sched b k ++ List.replicate (64 - k) 0) (k := k) (by rw [List.length_append, Sh.sched_len, List.length_replicate]; omega)
  have e : (Sh.sched b k ++ List.replicate (64 - k) (0 : Sh.W32)).getD k 0 = 0 := by
    rw [List.getD_eq_getElem?_getD, List.getElem?_append_right (by rw [Sh.sched_len]; omega), Sh.sched_len, Nat.sub_self]
    obtain ⟨m, hm⟩ : ∃ m, 64 - k = m + 1 := ⟨63 - k, by omega⟩
    rw [hm]; rfl
  rw [e] at h2
  exact h2
theorem sch_set (b : List Nat) {k : Nat} (h : k < 64) (x : Sh.W32) (hx : Sh.sched b (k + 1) = Sh.sched b k ++ [x]) : (sch b k).setIfInBounds k (.int .u32 (nt x : Nat)) = sch b (k + 1) := by
  unfold sch wvs
  rw [hx]
  apply Array.ext'
  have hm : 64 - k = (64 - (k + 1)) + 1 := by omega
  rw [Array.toList_setIfInBounds, hm, List.replicate_succ]
  simp only [List.map_append, List.map_cons]
  rw [List.set_append_right _ _ (by simp [Sh.sched_len])]
  simp [Sh.sched_len, wv]
theorem sched_word (b : List Nat) {k : Nat} (h : k < 16) : Sh.sched b (k + 1) = Sh.sched b k ++ [Sh.word (BitVec.ofNat 32 (b.getD (4 * k) 0)) (BitVec.ofNat 32 (b.getD (4 * k + 1) 0)) (BitVec.ofNat 32 (b.getD (4 * k + 2) 0)) (BitVec.ofNat 32 (b.getD (4 * k + 3) 0))] := by
  rw [Sh.sched, if_pos h]
theorem sched_mix (b : List Nat) {k : Nat} (h : ¬ k < 16) : Sh.sched b (k + 1) = Sh.sched b k ++ [(Sh.sched b k).getD (k - 16) 0 + (Sh.sched b k).getD (k - 7) 0 + Sh.sig0 ((Sh.sched b k).getD (k - 15) 0) + Sh.sig1 ((Sh.sched b k).getD (k - 2) 0)] := by
  rw [Sh.sched, if_neg h]

theorem Rw.via {w w9 : World} {n g : Nat} {t : TypeId} {c : Array Value} (h : Rw w g t c) (e : w.drewN n = w9) : Rw w9 g t c := by subst e; exact h
theorem byte_at {b : List Nat} (hl : b.length = 64) (h8 : ∀ x ∈ b, x < 256) {j : Nat} (hj : j < 64) : (bvs b)[j]? = some (.int .u8 (nt (BitVec.ofNat 32 (b.getD j 0)) : Nat)) := by
  have hx : b.getD j 0 < 256 := by
    rw [List.getD_eq_getElem?_getD, List.getElem?_eq_getElem (by omega)]
    exact h8 _ (List.getElem_mem (by omega))
  rw [nt_of (by omega)]
  exact bvs_at b (by omega)

/-- An element of an array that is a value. -/
theorem index64 (c : Array Value) (k : Nat) (v : Value) (hk : k < 64) (hv : c[k]? = some v) (w : World) : (Instr.index 24 (.agg c) (.int .i64 k)).run Try.prog w = .ok v w := by
  have h1 : (0 : Int) ≤ (k : Int) := by omega
  have h3 : (k : Int).toNat = k := by omega
  simp [go_sem, Instr.index, part, hv, h1, h3]
  intro h
  omega
theorem index8 (c : Array Value) (k : Nat) (v : Value) (hk : k < 8) (hv : c[k]? = some v) (w : World) : (Instr.index 23 (.agg c) (.int .i64 k)).run Try.prog w = .ok v w := by
  have h1 : (0 : Int) ≤ (k : Int) := by omega
  have h3 : (k : Int).toNat = k := by omega
  simp [go_sem, Instr.index, part, hv, h1, h3]
  intro h
  omega
theorem index32 (c : Array Value) (k : Nat) (v : Value) (hk : k < 32) (hv : c[k]? = some v) (w : World) : (Instr.index 35 (.agg c) (.int .i64 k)).run Try.prog w = .ok v w := by
  have h1 : (0 : Int) ≤ (k : Int) := by omega
  have h3 : (k : Int).toNat = k := by omega
  simp [go_sem, Instr.index, part, hv, h1, h3]
  intro h
  omega
end Go.Proofs.Ytejipcnihgpdhaa
