/-
  Row: A block that holds an array, whole: what reads and stores make of it.
  ShPressA: Arrays of words and of bytes, as Go's cells; what Press's walk takes of them.
  ShAdd: Two states added, word by word, as Go's cells.
-/
import Derived.Test.YtglkhgchbnkekaaProg
import Derived.WalkKit
import Derived.Below
import Derived.Laws.CopyOwn
import Derived.Lib.Hide
import Derived.Test.YtglkhgchbnkekaaPk21
import Derived.Test.YtglkhgchbnkekaaPk01
import Derived.BigQuiet
namespace Go.Proofs.Ytglkhgchbnkekaa
open Go.RowKit
set_option linter.unusedVariables false

/-- Block g holds these cells, of this type. -/
def Rw (w : World) (g : Nat) (t : TypeId) (c : Array Value) : Prop := w.heap[g]? = some (.cells c t (0, 0))
section
variable {w w' : World} {g k : Nat} {t : TypeId} {c : Array Value} {v : Value}
theorem Rw.lt (h : Rw w g t c) : g < w.heap.size := (Array.getElem?_eq_some_iff.1 h).1
theorem Rw.cell (h : Rw w g t c) (k : Nat) : w.cell? ⟨g, k, none⟩ = c[k]? := cell_of_row w g k c t (0, 0) h
theorem Rw.frozen (h : Rw w g t c) (k : Nat) : w.frozen? ⟨g, k, none⟩ = false := by
  have h' : w.heap[g]? = some (.cells c t (0, 0)) := h
  simp [World.frozen?, h']
theorem Rw.below (h : Rw w g t c) {B : Nat} (hb : Below B w w') (hB : g < B) : Rw w' g t c := (hb.block g hB).trans h
theorem Rw.drew (h : Rw w g t c) : Rw w.drew g t c := h
theorem Rw.new (w : World) (t : TypeId) (c : Array Value) : Rw (w.alloc (.cells c t)) w.heap.size t c := heap_alloc_new w _
theorem Rw.at_ {n : Nat} (h : n = w.heap.size) (t : TypeId) (c : Array Value) : Rw (w.alloc (.cells c t)) n t c := by subst h; exact Rw.new w t c
theorem Rw.old (h : Rw w g t c) (o : Obj) : Rw (w.alloc o) g t c := by
  show (w.heap.push o)[g]? = _
  have := h.lt
  rw [Array.getElem?_push, if_neg (by omega)]
  exact h
theorem Rw.set (h : Rw w g t c) (k : Nat) (v : Value) : Rw (w.setCell ⟨g, k, none⟩ v) g t (c.setIfInBounds k v) := by
  unfold Rw
  rw [setCell_eq_setRow w g k c t (0, 0) v h]
  exact setRow_heap w g c _ t (0, 0) h
theorem Rw.setOther (h : Rw w g t c) {g' : Nat} (hg : g ≠ g') (k : Nat) (v : Value) : Rw (w.setCell ⟨g', k, none⟩ v) g t c := by
  unfold Rw World.setCell at *
  simp only [Array.getElem?_modify, Ne.symm hg, if_false]
  exact h
theorem Rw.row (h : Rw w g t c) (c' : Array Value) : Rw (w.setRow g c') g t c' := setRow_heap w g c c' t (0, 0) h
theorem Rw.rowOther (h : Rw w g t c) {g' : Nat} (hg : g ≠ g') (c' : Array Value) : Rw (w.setRow g' c') g t c := (setRow_other w g' g c' hg).trans h
end
end Go.Proofs.Ytglkhgchbnkekaa
namespace Go.Proofs.Ytglkhgchbnkekaa
open Go.RowKit
set_option linter.unusedVariables false

theorem shr3 (x : Sh.W32) : (((nt x : Nat) : Int) / (8 : Int)) = (((nt (x >>> 3) : Nat)) : Int) := shr_bv x 3
theorem shr10 (x : Sh.W32) : (((nt x : Nat) : Int) / (1024 : Int)) = (((nt (x >>> 10) : Nat)) : Int) := shr_bv x 10
theorem add3_bv (x y z : Sh.W32) : ((((nt x : Nat) : Int) + ((nt y : Nat) : Int) + ((nt z : Nat) : Int)) % (4294967296 : Int)) = ((nt (x + y + z) : Nat) : Int) := by
  unfold nt
  rw [BitVec.toNat_add, BitVec.toNat_add]; omega
theorem shl24w (x : Sh.W32) : IntKind.u32.wrap (((nt x : Nat) : Int) * 16777216) = ((nt (x <<< 24) : Nat) : Int) := by rw [IntKind.wrap_u32]; exact shl_bv x 24
theorem shl16w (x : Sh.W32) : IntKind.u32.wrap (((nt x : Nat) : Int) * 65536) = ((nt (x <<< 16) : Nat) : Int) := by rw [IntKind.wrap_u32]; exact shl_bv x 16
theorem shl8w (x : Sh.W32) : IntKind.u32.wrap (((nt x : Nat) : Int) * 256) = ((nt (x <<< 8) : Nat) : Int) := by rw [IntKind.wrap_u32]; exact shl_bv x 8
theorem addw (x y : Sh.W32) : IntKind.u32.wrap (((nt x : Nat) : Int) + ((nt y : Nat) : Int)) = ((nt (x + y) : Nat) : Int) := by rw [IntKind.wrap_u32]; exact add_bv x y
theorem size24 : (Try.prog.info? 85).map (·.size) = some 64 := by kernel_rfl
/-- Bytes as the cells of an array. -/
def bvs (l : List Nat) : Array Value := (l.map u8).toArray
theorem bvs_size (l : List Nat) : (bvs l).size = l.length := by simp [bvs]
theorem bvs_at (l : List Nat) {k : Nat} (h : k < l.length) : (bvs l)[k]? = some (.int .u8 (l.getD k 0 : Nat)) := by
  simp [bvs, u8, List.getD, List.getElem?_eq_getElem h]
theorem nt_of {x : Nat} (h : x < 4294967296) : nt (BitVec.ofNat 32 x) = x := by unfold nt; rw [BitVec.toNat_ofNat]; exact Nat.mod_eq_of_lt h
theorem nt_mod (x : Sh.W32) : ((nt x : Nat) : Int) % 4294967296 = ((nt x : Nat) : Int) := by have := nt_lt x; omega
/-- The words' array, the first k of them written. -/
def sch (b : List Nat) (k : Nat) : Array Value := wvs (Sh.sched b k ++ List.replicate (64 - k) 0)
theorem sch_size (b : List Nat) {k : Nat} (h : k ≤ 64) : (sch b k).size = 64 := by simp [sch, wvs, Sh.sched_len]; omega
theorem sch_at (b : List Nat) {j k : Nat} (h : j < k) : (sch b k)[j]? = some (.int .u32 (nt ((Sh.sched b k).getD j 0) : Nat)) := by
  have h1 : j < (Sh.sched b k).length := by rw [Sh.sched_len]; exact h
  have h2 := wvs_at (Sh.sched b k ++ List.replicate (64 - k) 0) (k := j) (by rw [List.length_append]; omega)
  have e : (Sh.sched b k ++ List.replicate (64 - k) (0 : Sh.W32)).getD j 0 = (Sh.sched b k).getD j 0 := by
    rw [List.getD_eq_getElem?_getD, List.getElem?_append_left h1, List.getD_eq_getElem?_getD]
  rw [e] at h2
  exact h2
theorem sch_old (b : List Nat) {k : Nat} (h : k < 64) : (sch b k)[k]? = some (.int .u32 0) := by
  have h2 := wvs_at (Sh.sched b k ++ List.replicate (64 - k) 0) (k := k) (by rw [List.length_append, Sh.sched_len, List.length_replicate]; omega)
  have e : (Sh.sched b k ++ List.replicate (64 - k) (0 : Sh.W32)).getD k 0 = 0 := by
    rw [List.getD_eq_getElem?_getD, List.getElem?_append_right (by rw [Sh.sched_len]; omega), Sh.sched_len, Nat.sub_self]
    obtain ⟨m, hm⟩ : ∃ m, 64 - k = m + 1 := ⟨63 - k, by omega⟩
    rw [hm]; rfl
  rw [e] at h2
  exact h2
theorem sch_set (b : List Nat) {k : Nat} (h : k < 64) (x : Sh.W32) (hx : Sh.sched b (k + 1) = Sh.sched b k ++ [x]) : (sch b k).setIfInBounds k (.int .u32 (nt x : Nat)) = sch b (k + 1) := by
  unfold sch wvs
  rw [hx]
  apply Array.ext'
  have hm : 64 - k = (64 - (k + 1)) + 1 := by omega
  rw [Array.toList_setIfInBounds, hm, List.replicate_succ]
  simp only [List.map_append, List.map_cons]
  rw [List.set_append_right _ _ (by simp [Sh.sched_len])]
  simp [Sh.sched_len, wv]
theorem sched_word (b : List Nat) {k : Nat} (h : k < 16) : Sh.sched b (k + 1) = Sh.sched b k ++ [Sh.word (BitVec.ofNat 32 (b.getD (4 * k) 0)) (BitVec.ofNat 32 (b.getD (4 * k + 1) 0)) (BitVec.ofNat 32 (b.getD (4 * k + 2) 0)) (BitVec.ofNat 32 (b.getD (4 * k + 3) 0))] := by
  rw [Sh.sched, if_pos h]
theorem sched_mix (b : List Nat) {k : Nat} (h : ¬ k < 16) : Sh.sched b (k + 1) = Sh.sched b k ++ [(Sh.sched b k).getD (k - 16) 0 + (Sh.sched b k).getD (k - 7) 0 + Sh.sig0 ((Sh.sched b k).getD (k - 15) 0) + Sh.sig1 ((Sh.sched b k).getD (k - 2) 0)] := by
  rw [Sh.sched, if_neg h]

theorem Rw.via {w w9 : World} {n g : Nat} {t : TypeId} {c : Array Value} (h : Rw w g t c) (e : w.drewN n = w9) : Rw w9 g t c := by subst e; exact h
theorem byte_at {b : List Nat} (hl : b.length = 64) (h8 : ∀ x ∈ b, x < 256) {j : Nat} (hj : j < 64) : (bvs b)[j]? = some (.int .u8 (nt (BitVec.ofNat 32 (b.getD j 0)) : Nat)) := by
  have hx : b.getD j 0 < 256 := by
    rw [List.getD_eq_getElem?_getD, List.getElem?_eq_getElem (by omega)]
    exact h8 _ (List.getElem_mem (by omega))
  rw [nt_of (by omega)]
  exact bvs_at b (by omega)

/-- An element of an array that is a value. -/
theorem index64 (c : Array Value) (k : Nat) (v : Value) (hk : k < 64) (hv : c[k]? = some v) (w : World) : (Instr.index 85 (.agg c) (.int .i64 k)).run Try.prog w = .ok v w := by
  have h1 : (0 : Int) ≤ (k : Int) := by omega
  have h3 : (k : Int).toNat = k := by omega
  simp [go_sem, Instr.index, part, hv, h1, h3]
  intro h
  omega
theorem index8 (c : Array Value) (k : Nat) (v : Value) (hk : k < 8) (hv : c[k]? = some v) (w : World) : (Instr.index 83 (.agg c) (.int .i64 k)).run Try.prog w = .ok v w := by
  have h1 : (0 : Int) ≤ (k : Int) := by omega
  have h3 : (k : Int).toNat = k := by omega
  simp [go_sem, Instr.index, part, hv, h1, h3]
  intro h
  omega
theorem index32 (c : Array Value) (k : Nat) (v : Value) (hk : k < 32) (hv : c[k]? = some v) (w : World) : (Instr.index 57 (.agg c) (.int .i64 k)).run Try.prog w = .ok v w := by
  have h1 : (0 : Int) ≤ (k : Int) := by omega
  have h3 : (k : Int).toNat = k := by omega
  simp [go_sem, Instr.index, part, hv, h1, h3]
  intro h
  omega
end Go.Proofs.Ytglkhgchbnkekaa
namespace Go.Proofs.Ytglkhgchbnkekaa
open Go.RowKit
set_option linter.unusedVariables false

/-- The state's array, to whose first k words those of another one are added. -/
def addk (s t : Sh.St) (k : Nat) : Array Value := #[wv (if 0 < k then s.a + t.a else s.a), wv (if 1 < k then s.b + t.b else s.b), wv (if 2 < k then s.c + t.c else s.c), wv (if 3 < k then s.d + t.d else s.d), wv (if 4 < k then s.e + t.e else s.e), wv (if 5 < k then s.f + t.f else s.f), wv (if 6 < k then s.g + t.g else s.g), wv (if 7 < k then s.h + t.h else s.h)]
theorem addk_zero (s t : Sh.St) : addk s t 0 = stv s := rfl
theorem addk_end (s t : Sh.St) : addk s t 8 = stv (s.add t) := rfl
theorem addk_step (s t : Sh.St) {k : Nat} (h : k < 8) : ∃ x y, (addk s t k)[k]? = some (.int .u32 (nt x : Nat)) ∧ (stv t)[k]? = some (.int .u32 (nt y : Nat)) ∧ (addk s t k).setIfInBounds k (.int .u32 (nt (x + y) : Nat)) = addk s t (k + 1) := by
  rcases k with _|_|_|_|_|_|_|_|k
  · exact ⟨s.a, t.a, rfl, rfl, rfl⟩
  · exact ⟨s.b, t.b, rfl, rfl, rfl⟩
  · exact ⟨s.c, t.c, rfl, rfl, rfl⟩
  · exact ⟨s.d, t.d, rfl, rfl, rfl⟩
  · exact ⟨s.e, t.e, rfl, rfl, rfl⟩
  · exact ⟨s.f, t.f, rfl, rfl, rfl⟩
  · exact ⟨s.g, t.g, rfl, rfl, rfl⟩
  · exact ⟨s.h, t.h, rfl, rfl, rfl⟩
  · omega
theorem stv_size8 (s : Sh.St) : (Try.prog.info? 83).map (·.size) = some (stv s).size := by rw [stv_size]; exact size23

end Go.Proofs.Ytglkhgchbnkekaa
