/-
  stookref04.constant answers the constants.
-/
import Derived.Test.YtejipcnihgpdhaaShOps
import Derived.Deep.WholeRow
namespace Go.Proofs.Ytejipcnihgpdhaa
open Go.RowKit
set_option linter.unusedVariables false

/-- The constants, as Go lays them. -/
def kcells : Array Value := #[.int .u32 1116352408, .int .u32 1899447441, .int .u32 3049323471, .int .u32 3921009573, .int .u32 961987163, .int .u32 1508970993, .int .u32 2453635748, .int .u32 2870763221, .int .u32 3624381080, .int .u32 310598401, .int .u32 607225278, .int .u32 1426881987, .int .u32 1925078388, .int .u32 2162078206, .int .u32 2614888103, .int .u32 3248222580, .int .u32 3835390401, .int .u32 4022224774, .int .u32 264347078, .int .u32 604807628, .int .u32 770255983, .int .u32 1249150122, .int .u32 1555081692, .int .u32 1996064986, .int .u32 2554220882, .int .u32 2821834349, .int .u32 2952996808, .int .u32 3210313671, .int .u32 3336571891, .int .u32 3584528711, .int .u32 113926993, .int .u32 338241895, .int .u32 666307205, .int .u32 773529912, .int .u32 1294757372, .int .u32 1396182291, .int .u32 1695183700, .int .u32 1986661051, .int .u32 2177026350, .int .u32 2456956037, .int .u32 2730485921, .int .u32 2820302411, .int .u32 3259730800, .int .u32 3345764771, .int .u32 3516065817, .int .u32 3600352804, .int .u32 4094571909, .int .u32 275423344, .int .u32 430227734, .int .u32 506948616, .int .u32 659060556, .int .u32 883997877, .int .u32 958139571, .int .u32 1322822218, .int .u32 1537002063, .int .u32 1747873779, .int .u32 1955562222, .int .u32 2024104815, .int .u32 2227730452, .int .u32 2361852424, .int .u32 2428436474, .int .u32 2756734187, .int .u32 3204031479, .int .u32 3329325298]
theorem kcells_eq : kcells = wvs Sh.consts := by rfl
theorem kcells_at {k : Nat} (hk : k < 64) : kcells[k]? = some (.int .u32 (nt (Sh.kc k) : Nat)) := by
  rw [kcells_eq]
  exact wvs_at Sh.consts (by rw [Sh.consts_len]; exact hk)
theorem kcells_size : kcells.size = 64 := by rfl
theorem one_of (l : List Sh.W32) : (wvs l).all (·.oneCell') = true := by
  rw [Array.all_eq_true_iff_forall_mem]
  intro v hv
  simp only [wvs, List.mem_toArray, List.mem_map] at hv
  obtain ⟨x, _, rfl⟩ := hv
  rfl
theorem kcells_one : kcells.all (·.oneCell') = true := by rw [kcells_eq]; exact one_of _
theorem wpList_build_at {ops : Array Oper} {rest : List Oper} {o : Oper} {a : Act} {w : World} {Q : Exit → Act → World → Prop} (hg : o.guard = none) (t : TypeId) (parts : Array (Nat × Operand)) (ho : o.op = .build t parts) (c : Array Value)
    (hf : Try.prog.built t (parts.map fun (i, x) => (i, a.eval x)).toList = some c)
    (h : wpList Try.prog ops Q rest (a.put o.dst (.agg c)) w) : wpList Try.prog ops Q (o :: rest) a w :=
  wpList_build hg t parts ho (by rw [hf]; rfl) (by rw [hf]; exact h)
def noughts52 : Array Value := Array.replicate 64 (.int .u32 0)

set_option maxRecDepth 100000 in
theorem zero52 : (Try.prog.info? 53).map (fun i => (i.zero, i.size)) = some (some (.agg noughts52), 64) := by kernel_rfl
set_option maxRecDepth 100000 in
theorem size52 : (Try.prog.info? 53).map (·.size) = some 64 := by kernel_rfl

set_option maxHeartbeats 1000000 in
set_option maxRecDepth 100000 in
theorem constant_any (k : Nat) (hk : k < 64) (w : World) : Calls Try.prog 33 #[.int .i64 k] w (fun e w' => e = .returned (.int .u32 (nt (Sh.kc k) : Nat)) ∧ Below w.heap.size w w') := by
  have hat := kcells_at hk
  have hb : (k : Int) < 64 := by omega
  go_enter Try.func33, Try.ntmps33
  go_wp2_with (first
    | (refine wpList_build_at rfl _ _ rfl kcells (by kernel_rfl) ?_)
    | (refine wpList_store_row rfl _ _ _ rfl w.heap.size kcells rfl rfl 53 _ (heap_alloc_new w _) (by rw [kcells_size]; exact size52) (by rw [kcells_size]; rfl) kcells_one ?_
       rw [World.setRow_alloc_new]))
  go_ret
  exact ⟨rfl, (Below.refl w.heap.size w).alloc (Nat.le_refl _) _⟩

theorem size23 : (Try.prog.info? 23).map (·.size) = some 8 := by kernel_rfl
/-- A state as Go's array. -/
def stv (s : Sh.St) : Array Value := #[wv s.a, wv s.b, wv s.c, wv s.d, wv s.e, wv s.f, wv s.g, wv s.h]
theorem stv_size (s : Sh.St) : (stv s).size = 8 := rfl
theorem stv_one (s : Sh.St) : (stv s).all (·.oneCell') = true := one_of s.list
/-- A call that answers this state, and turns nothing that was there. -/
def IsSt (s : Sh.St) (w : World) (e : Ending) (w' : World) : Prop := e = .returned (.agg (stv s)) ∧ Below w.heap.size w w'
theorem begin_cells : stv Sh.begin = #[.int .u32 1779033703, .int .u32 3144134277, .int .u32 1013904242, .int .u32 2773480762, .int .u32 1359893119, .int .u32 2600822924, .int .u32 528734635, .int .u32 1541459225] := by rfl

set_option maxHeartbeats 1000000 in
set_option maxRecDepth 100000 in
theorem begin_any (w : World) : Calls Try.prog 35 #[] w (IsSt Sh.begin w) := by
  go_enter Try.func35, Try.ntmps35
  go_wp2_with (first
    | (refine wpList_build_at rfl _ _ rfl (stv Sh.begin) (by kernel_rfl) ?_)
    | (refine wpList_store_row rfl _ _ _ rfl w.heap.size (stv Sh.begin) rfl rfl 23 _ (heap_alloc_new w _) (by rw [stv_size]; exact size23) (by rw [stv_size]; rfl) (stv_one _) ?_
       rw [World.setRow_alloc_new]))
  refine bodyPost_ret (v := .agg (stv Sh.begin)) (results_cell_row rfl _ _ w.heap.size 23 _ (0, 0) _ rfl (heap_alloc_new w _) Try.underlying23 rfl (by rw [stv_size]; exact size23)) rfl ⟨rfl, (Below.refl w.heap.size w).alloc (Nat.le_refl _) _⟩
end Go.Proofs.Ytejipcnihgpdhaa
