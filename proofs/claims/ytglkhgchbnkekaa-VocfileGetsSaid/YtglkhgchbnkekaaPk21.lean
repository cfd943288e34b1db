/-
  VfSpec: What the calls of package vocfile answer, said of pieces and bytes.
  ShOps: Words of 32 bits as the model's numbers: what Go's operations make of them. stookref04.turn, constant, begin.
  ShConst: stookref04.constant answers the constants.
-/
import Derived.Test.YtglkhgchbnkekaaPk18
import Derived.Test.YtglkhgchbnkekaaPk20
import Derived.Test.YtglkhgchbnkekaaProg
import Derived.WalkKit
import Derived.Outline
import Derived.Below
import Derived.Lib.Hide
import Derived.Deep.WholeRow
namespace Go.Proofs.Ytglkhgchbnkekaa
open Go.RowKit
namespace Vf
/-- The number of the first k bytes, the highest first. -/
def idTo (d : List Nat) (k : Nat) : Nat := (d.take k).foldl (fun n x => 256 * n + x) 0
theorem idTo_succ {d : List Nat} {k x : Nat} (h : d[k]? = some x) : idTo d (k + 1) = 256 * idTo d k + x := by
  unfold idTo
  rw [take_snoc h, List.foldl_append]; rfl
theorem idTo_lt {d : List Nat} (hd : ∀ x ∈ d, x < 256) : ∀ k, idTo d k < 256 ^ k := by
  intro k
  induction k with
  | zero => exact Nat.one_pos
  | succ k ih =>
    cases h : d[k]? with
    | none =>
      have e : idTo d (k + 1) = idTo d k := by unfold idTo; rw [List.take_add_one, h]; simp
      rw [e, Nat.pow_succ]; omega
    | some x =>
      have := hd x (List.mem_of_getElem? h)
      rw [idTo_succ h, Nat.pow_succ]; omega
/-- The number of bytes. -/
def idOf (l : List Nat) : Nat := idTo (Sh.sum l) 8
def idE (P : List Vo.Pc) : Nat × Nat := if Vo.May P then (idOf (file P), 0) else (0, 11)
/-- A vocabulary's file, of no more pieces than there may be, is not long. -/
theorem file_short {P : List Vo.Pc} (hn : P.length ≤ 4096) : (file P).length ≤ 140000 := by
  have h1 := pcs_len P
  have h2 : (Mt.put P.length).length ≤ 10 := Mt.put_len_le _
  rw [file_len, body]
  simp only [List.length_append, magic_len]
  omega
/-- What Get tells of what is none. -/
theorem bad_of {l : List Nat} (h : (getE l).2.2 ≠ 0) : ∃ T E, getE l = ([], T, E) ∧ E ≠ 0 :=
  ⟨(getE l).2.1, (getE l).2.2, by rw [← getE_bad h], h⟩
/-- A file of which one byte is another one. -/
theorem file_set {P : List Vo.Pc} (h : ∀ p ∈ P, Fits p) (hn : P.length ≤ 4096) {k c n : Nat} (hc : (file P)[k]? = some c) (h0 : n ≠ 0) (hb : n < 256) : (getE ((file P).set k (c ^^^ n))).2.2 ≠ 0 := by
  have hk : k < (file P).length := (List.getElem?_eq_some_iff.1 hc).1
  have hc8 : c < 256 := file_lt h hn c (List.mem_of_getElem? hc)
  refine file_near h hn (p := k) (k := 1) (fun x hx => ?_) (List.length_set) (by omega) ?_ ?_ (fun e => ?_)
  · rcases List.mem_or_eq_of_mem_set hx with hx | rfl
    · exact file_lt h hn x hx
    · exact Cr.xor_byte_lt hc8 hb
  · rw [List.take_set_of_le (Nat.le_refl k)]
  · rw [List.drop_set, if_pos (by omega)]
  · have h1 : ((file P).set k (c ^^^ n))[k]? = some (c ^^^ n) := by rw [List.getElem?_set, if_pos rfl, if_pos hk]
    rw [e, hc] at h1
    have h2 : c = c ^^^ n := Option.some.inj h1
    have h3 : c ^^^ (c ^^^ n) = n := by rw [← Nat.xor_assoc, Nat.xor_self, Nat.zero_xor]
    rw [← h2, Nat.xor_self] at h3
    exact h0 h3.symm
end Vf
/-- A call that answers a number of 64 bits and an error. -/
def IsId (r : Nat × Nat) (w : World) (e : Ending) (w' : World) : Prop := e = .returned (.tuple #[.int .u64 (r.1 : Nat), .int .i64 (r.2 : Nat)]) ∧ Below w.heap.size w w'
end Go.Proofs.Ytglkhgchbnkekaa
namespace Go.Proofs.Ytglkhgchbnkekaa
open Go.RowKit
set_option linter.unusedVariables false

/-- A word's number: BitVec.toNat, out of the reach of what simp knows of it. -/
def nt (x : Sh.W32) : Nat := x.toNat
theorem nt_lt (x : Sh.W32) : nt x < 4294967296 := x.isLt
theorem nt_inj {x y : Sh.W32} (h : nt x = nt y) : x = y := BitVec.eq_of_toNat_eq h
/-- A word as Go's uint32. -/
def wv (x : Sh.W32) : Value := .int .u32 (nt x : Nat)

theorem of_nat32 (x : Sh.W32) : BitVec.ofInt 32 ((nt x : Nat) : Int) = x := by
  rw [BitVec.ofInt_natCast]; simp [nt]
theorem wrap_nt (x : Sh.W32) : IntKind.u32.wrap ((nt x : Nat) : Int) = ((nt x : Nat) : Int) := by
  have := nt_lt x
  rw [IntKind.wrap_u32]; omega
theorem xor_bv (x y : Sh.W32) : bits .xor .u32 ((nt x : Nat) : Int) ((nt y : Nat) : Int) = ((nt (x ^^^ y) : Nat) : Int) := by
  show IntKind.u32.wrap ((BitVec.ofInt 32 ((nt x : Nat) : Int) ^^^ BitVec.ofInt 32 ((nt y : Nat) : Int)).toNat : Int) = _
  rw [of_nat32, of_nat32]
  exact wrap_nt _
theorem and_bv (x y : Sh.W32) : bits .and .u32 ((nt x : Nat) : Int) ((nt y : Nat) : Int) = ((nt (x &&& y) : Nat) : Int) := by
  show IntKind.u32.wrap ((BitVec.ofInt 32 ((nt x : Nat) : Int) &&& BitVec.ofInt 32 ((nt y : Nat) : Int)).toNat : Int) = _
  rw [of_nat32, of_nat32]
  exact wrap_nt _
theorem or_bv (x y : Sh.W32) : bits .or .u32 ((nt x : Nat) : Int) ((nt y : Nat) : Int) = ((nt (x ||| y) : Nat) : Int) := by
  show IntKind.u32.wrap ((BitVec.ofInt 32 ((nt x : Nat) : Int) ||| BitVec.ofInt 32 ((nt y : Nat) : Int)).toNat : Int) = _
  rw [of_nat32, of_nat32]
  exact wrap_nt _
theorem add_bv (x y : Sh.W32) : (((nt x : Nat) : Int) + ((nt y : Nat) : Int)) % 4294967296 = ((nt (x + y) : Nat) : Int) := by
  unfold nt
  rw [BitVec.toNat_add]; omega
theorem shr_bv (x : Sh.W32) (n : Nat) : ((nt x : Nat) : Int) / 2 ^ n = ((nt (x >>> n) : Nat) : Int) := by
  unfold nt
  rw [BitVec.toNat_ushiftRight, Nat.shiftRight_eq_div_pow]
  simp
theorem shl_bv (x : Sh.W32) (n : Nat) : ((nt x : Nat) : Int) * 2 ^ n % 4294967296 = ((nt (x <<< n) : Nat) : Int) := by
  unfold nt
  rw [BitVec.toNat_shiftLeft, Nat.shiftLeft_eq]
  simp
theorem not_bv (x : Sh.W32) : bits .xor .u32 IntKind.u32.max ((nt x : Nat) : Int) = ((nt (~~~x) : Nat) : Int) := by
  have h : (IntKind.u32.max : Int) = ((nt (BitVec.allOnes 32) : Nat) : Int) := rfl
  rw [h, xor_bv, BitVec.allOnes_xor]

/-- A call that answers this word, and turns nothing. -/
def IsW (x : Sh.W32) (w : World) (e : Ending) (w' : World) : Prop := e = .returned (.int .u32 (nt x : Nat)) ∧ w = w'

set_option maxHeartbeats 400000 in
theorem turn_any (x : Sh.W32) (n : Nat) (hn : n ≤ 32) (w : World) : Calls Try.prog 71 #[.int .u32 (nt x : Nat), .int .i64 n] w (IsW (Sh.rot x n) w) := by
  have h1 := shr_bv x n
  have h2 := shl_bv x (32 - n)
  have h3 := or_bv (x >>> n) (x <<< (32 - n))
  have h4 : ((32 : Int) - (n : Int)).toNat = 32 - n := by omega
  have h5 : (0 : Int) ≤ 32 - (n : Int) := by omega
  go_enter Try.func71, Try.ntmps71
  go_wp2
  go_ret
  exact ⟨by rfl, rfl⟩

/-- A list of words as the cells of an array. -/
def wvs (l : List Sh.W32) : Array Value := (l.map wv).toArray
theorem wvs_at (l : List Sh.W32) {k : Nat} (h : k < l.length) : (wvs l)[k]? = some (.int .u32 (nt (l.getD k 0) : Nat)) := by
  simp [wvs, wv, List.getD, List.getElem?_eq_getElem h]


/-- The bits turned over: a law at the operation (the walk's own simp runs away at 'all bits'). -/
theorem unary_eq (x : Sh.W32) : Op.unary .xor (.int .u32 (nt x : Nat)) = (pure (.int .u32 (nt (~~~x) : Nat)) : Sem Value) := by
  show Op.intBits .xor .u32 IntKind.u32.max (nt x : Nat) = _
  rw [← not_bv]; rfl
theorem unary_bv (x : Sh.W32) (w : World) : (Op.unary .xor (.int .u32 (nt x : Nat))).run Try.prog w = .ok (.int .u32 (nt (~~~x) : Nat)) w := by
  show (Op.intBits .xor .u32 IntKind.u32.max (nt x : Nat)).run Try.prog w = _
  rw [← not_bv]; rfl
theorem wp_notu {o : Oper} {a : Act} {w : World} {K : Act → World → Prop} {Q : Exit → Act → World → Prop} (t : TypeId) (s : Operand) (ho : o.op = .unOp .xor t s) (x : Sh.W32) (hx : a.eval s = .int .u32 (nt x : Nat))
    (h : K (a.put o.dst (.int .u32 (nt (~~~x) : Nat))) w) : o.wp Try.prog a w K Q := by
  unfold Oper.wp execOp
  rw [ho]
  simp only [hx, Sem.run_bind, unary_bv, Result.andThen, Sem.run_pure, Oper.upon]
  exact h
theorem wpList_notu {ops : Array Oper} {rest : List Oper} {o : Oper} {a : Act} {w : World} {Q : Exit → Act → World → Prop} (hg : o.guard = none) (t : TypeId) (s : Operand) (ho : o.op = .unOp .xor t s) (x : Sh.W32) (hx : a.eval s = .int .u32 (nt x : Nat))
    (h : wpList Try.prog ops Q rest (a.put o.dst (.int .u32 (nt (~~~x) : Nat))) w) : wpList Try.prog ops Q (o :: rest) a w :=
  wpList_plain hg fun _ hK => wp_notu t s ho x hx (hK _ _ h)
end Go.Proofs.Ytglkhgchbnkekaa
namespace Go.Proofs.Ytglkhgchbnkekaa
open Go.RowKit
set_option linter.unusedVariables false

/-- The constants, as Go lays them. -/
def kcells : Array Value := #[.int .u32 1116352408, .int .u32 1899447441, .int .u32 3049323471, .int .u32 3921009573, .int .u32 961987163, .int .u32 1508970993, .int .u32 2453635748, .int .u32 2870763221, .int .u32 3624381080, .int .u32 310598401, .int .u32 607225278, .int .u32 1426881987, .int .u32 1925078388, .int .u32 2162078206, .int .u32 2614888103, .int .u32 3248222580, .int .u32 3835390401, .int .u32 4022224774, .int .u32 264347078, .int .u32 604807628, .int .u32 770255983, .int .u32 1249150122, .int .u32 1555081692, .int .u32 1996064986, .int .u32 2554220882, .int .u32 2821834349, .int .u32 2952996808, .int .u32 3210313671, .int .u32 3336571891, .int .u32 3584528711, .int .u32 113926993, .int .u32 338241895, .int .u32 666307205, .int .u32 773529912, .int .u32 1294757372, .int .u32 1396182291, .int .u32 1695183700, .int .u32 1986661051, .int .u32 2177026350, .int .u32 2456956037, .int .u32 2730485921, .int .u32 2820302411, .int .u32 3259730800, .int .u32 3345764771, .int .u32 3516065817, .int .u32 3600352804, .int .u32 4094571909, .int .u32 275423344, .int .u32 430227734, .int .u32 506948616, .int .u32 659060556, .int .u32 883997877, .int .u32 958139571, .int .u32 1322822218, .int .u32 1537002063, .int .u32 1747873779, .int .u32 1955562222, .int .u32 2024104815, .int .u32 2227730452, .int .u32 2361852424, .int .u32 2428436474, .int .u32 2756734187, .int .u32 3204031479, .int .u32 3329325298]
theorem kcells_eq : kcells = wvs Sh.consts := by rfl
theorem kcells_at {k : Nat} (hk : k < 64) : kcells[k]? = some (.int .u32 (nt (Sh.kc k) : Nat)) := by
  rw [kcells_eq]
  exact wvs_at Sh.consts (by rw [Sh.consts_len]; exact hk)
theorem kcells_size : kcells.size = 64 := by rfl
theorem one_of (l : List Sh.W32) : (wvs l).all (·.oneCell') = true := by
  rw [Array.all_eq_true_iff_forall_mem]
  intro v hv
  simp only [wvs, List.mem_toArray, List.mem_map] at hv
  obtain ⟨x, _, rfl⟩ := hv
  rfl
theorem kcells_one : kcells.all (·.oneCell') = true := by rw [kcells_eq]; exact one_of _
theorem wpList_build_at {ops : Array Oper} {rest : List Oper} {o : Oper} {a : Act} {w : World} {Q : Exit → Act → World → Prop} (hg : o.guard = none) (t : TypeId) (parts : Array (Nat × Operand)) (ho : o.op = .build t parts) (c : Array Value)
    (hf : Try.prog.built t (parts.map fun (i, x) => (i, a.eval x)).toList = some c)
    (h : wpList Try.prog ops Q rest (a.put o.dst (.agg c)) w) : wpList Try.prog ops Q (o :: rest) a w :=
  wpList_build hg t parts ho (by rw [hf]; rfl) (by rw [hf]; exact h)
def noughts52 : Array Value := Array.replicate 64 (.int .u32 0)

set_option maxRecDepth 100000 in
theorem zero52 : (Try.prog.info? 109).map (fun i => (i.zero, i.size)) = some (some (.agg noughts52), 64) := by kernel_rfl
set_option maxRecDepth 100000 in
theorem size52 : (Try.prog.info? 109).map (·.size) = some 64 := by kernel_rfl

set_option maxHeartbeats 1000000 in
set_option maxRecDepth 100000 in
theorem constant_any (k : Nat) (hk : k < 64) (w : World) : Calls Try.prog 72 #[.int .i64 k] w (fun e w' => e = .returned (.int .u32 (nt (Sh.kc k) : Nat)) ∧ Below w.heap.size w w') := by
  have hat := kcells_at hk
  have hb : (k : Int) < 64 := by omega
  go_enter Try.func72, Try.ntmps72
  go_wp2_with (first
    | (refine wpList_build_at rfl _ _ rfl kcells (by kernel_rfl) ?_)
    | (refine wpList_store_row rfl _ _ _ rfl w.heap.size kcells rfl rfl 109 _ (heap_alloc_new w _) (by rw [kcells_size]; exact size52) (by rw [kcells_size]; rfl) kcells_one ?_
       rw [World.setRow_alloc_new]))
  go_ret
  exact ⟨rfl, (Below.refl w.heap.size w).alloc (Nat.le_refl _) _⟩

theorem size23 : (Try.prog.info? 83).map (·.size) = some 8 := by kernel_rfl
/-- A state as Go's array. -/
def stv (s : Sh.St) : Array Value := #[wv s.a, wv s.b, wv s.c, wv s.d, wv s.e, wv s.f, wv s.g, wv s.h]
theorem stv_size (s : Sh.St) : (stv s).size = 8 := rfl
theorem stv_one (s : Sh.St) : (stv s).all (·.oneCell') = true := one_of s.list
/-- A call that answers this state, and turns nothing that was there. -/
def IsSt (s : Sh.St) (w : World) (e : Ending) (w' : World) : Prop := e = .returned (.agg (stv s)) ∧ Below w.heap.size w w'
theorem begin_cells : stv Sh.begin = #[.int .u32 1779033703, .int .u32 3144134277, .int .u32 1013904242, .int .u32 2773480762, .int .u32 1359893119, .int .u32 2600822924, .int .u32 528734635, .int .u32 1541459225] := by rfl

set_option maxHeartbeats 1000000 in
set_option maxRecDepth 100000 in
theorem begin_any (w : World) : Calls Try.prog 49 #[] w (IsSt Sh.begin w) := by
  go_enter Try.func49, Try.ntmps49
  go_wp2_with (first
    | (refine wpList_build_at rfl _ _ rfl (stv Sh.begin) (by kernel_rfl) ?_)
    | (refine wpList_store_row rfl _ _ _ rfl w.heap.size (stv Sh.begin) rfl rfl 83 _ (heap_alloc_new w _) (by rw [stv_size]; exact size23) (by rw [stv_size]; rfl) (stv_one _) ?_
       rw [World.setRow_alloc_new]))
  refine bodyPost_ret (v := .agg (stv Sh.begin)) (results_cell_row rfl _ _ w.heap.size 83 _ (0, 0) _ rfl (heap_alloc_new w _) Try.underlying83 rfl (by rw [stv_size]; exact size23)) rfl ⟨rfl, (Below.refl w.heap.size w).alloc (Nat.le_refl _) _⟩
end Go.Proofs.Ytglkhgchbnkekaa
