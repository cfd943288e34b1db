/-
  Words of 32 bits as the model's numbers: what Go's operations make of them. stookref04.turn, constant, begin.
-/
import Derived.Test.YtejipcnihgpdhaaProg
import Derived.Test.YtejipcnihgpdhaaShMath
import Derived.WalkKit
import Derived.Outline
import Derived.Below
import Derived.Lib.Hide
namespace Go.Proofs.Ytejipcnihgpdhaa
open Go.RowKit
set_option linter.unusedVariables false

/-- A word's number: BitVec.toNat, out of the reach of what simp knows of it. -/
def nt (x : Sh.W32) : Nat := x.toNat
theorem nt_lt (x : Sh.W32) : nt x < 4294967296 := x.isLt
theorem nt_inj {x y : Sh.W32} (h : nt x = nt y) : x = y := BitVec.eq_of_toNat_eq h
/-- A word as Go's uint32. -/
def wv (x : Sh.W32) : Value := .int .u32 (nt x : Nat)

theorem of_nat32 (x : Sh.W32) : BitVec.ofInt 32 ((nt x : Nat) : Int) = x := by
  rw [BitVec.ofInt_natCast]; simp [nt]
theorem wrap_nt (x : Sh.W32) : IntKind.u32.wrap ((nt x : Nat) : Int) = ((nt x : Nat) : Int) := by
  have := nt_lt x
  rw [IntKind.wrap_u32]; omega
theorem xor_bv (x y : Sh.W32) : bits .xor .u32 ((nt x : Nat) : Int) ((nt y : Nat) : Int) = ((nt (x ^^^ y) : Nat) : Int) := by
  show IntKind.u32.wrap ((BitVec.ofInt 32 ((nt x : Nat) : Int) ^^^ BitVec.ofInt 32 ((nt y : Nat) : Int)).toNat : Int) = _
  rw [of_nat32, of_nat32]
  exact wrap_nt _
theorem and_bv (x y : Sh.W32) : bits .and .u32 ((nt x : Nat) : Int) ((nt y : Nat) : Int) = ((nt (x &&& y) : Nat) : Int) := by
  show IntKind.u32.wrap ((BitVec.ofInt 32 ((nt x : Nat) : Int) &&& BitVec.ofInt 32 ((nt y : Nat) : Int)).toNat : Int) = _
  rw [of_nat32, of_nat32]
  exact wrap_nt _
theorem or_bv (x y : Sh.W32) : bits .or .u32 ((nt x : Nat) : Int) ((nt y : Nat) : Int) = ((nt (x ||| y) : Nat) : Int) := by
  show IntKind.u32.wrap ((BitVec.ofInt 32 ((nt x : Nat) : Int) ||| BitVec.ofInt 32 ((nt y : Nat) : Int)).toNat : Int) = _
  rw [of_nat32, of_nat32]
  exact wrap_nt _
theorem add_bv (x y : Sh.W32) : (((nt x : Nat) : Int) + ((nt y : Nat) : Int)) % 4294967296 = ((nt (x + y) : Nat) : Int) := by
  unfold nt
  rw [BitVec.toNat_add]; omega
theorem shr_bv (x : Sh.W32) (n : Nat) : ((nt x : Nat) : Int) / 2 ^ n = ((nt (x >>> n) : Nat) : Int) := by
  unfold nt
  rw [BitVec.toNat_ushiftRight, Nat.shiftRight_eq_div_pow]
  simp
theorem shl_bv (x : Sh.W32) (n : Nat) : ((nt x : Nat) : Int) * 2 ^ n % 4294967296 = ((nt (x <<< n) : Nat) : Int) := by
  unfold nt
  rw [BitVec.toNat_shiftLeft, Nat.shiftLeft_eq]
  simp
theorem not_bv (x : Sh.W32) : bits .xor .u32 IntKind.u32.max ((nt x : Nat) : Int) = ((nt (~~~x) : Nat) : Int) := by
  have h : (IntKind.u32.max : Int) = ((nt (BitVec.allOnes 32) : Nat) : Int) := rfl
  rw [h, xor_bv, BitVec.allOnes_xor]

/-- A call that answers this word, and turns nothing. -/
def IsW (x : Sh.W32) (w : World) (e : Ending) (w' : World) : Prop := e = .returned (.int .u32 (nt x : Nat)) ∧ w = w'

set_option maxHeartbeats 400000 in
theorem turn_any (x : Sh.W32) (n : Nat) (hn : n ≤ 32) (w : World) : Calls Try.prog 32 #[.int .u32 (nt x : Nat), .int .i64 n] w (IsW (Sh.rot x n) w) := by
  have h1 := shr_bv x n
  have h2 := shl_bv x (32 - n)
  have h3 := or_bv (x >>> n) (x <<< (32 - n))
  have h4 : ((32 : Int) - (n : Int)).toNat = 32 - n := by omega
  have h5 : (0 : Int) ≤ 32 - (n : Int) := by omega
  go_enter Try.func32, Try.ntmps32
  go_wp2
  go_ret
  exact ⟨by rfl, rfl⟩

/-- A list of words as the cells of an array. -/
def wvs (l : List Sh.W32) : Array Value := (l.map wv).toArray
theorem wvs_at (l : List Sh.W32) {k : Nat} (h : k < l.length) : (wvs l)[k]? = some (.int .u32 (nt (l.getD k 0) : Nat)) := by
  simp [wvs, wv, List.getD, List.getElem?_eq_getElem h]


/-- The bits turned over: a law at the operation (the walk's own simp runs away at 'all bits'). -/
theorem unary_eq (x : Sh.W32) : Op.unary .xor (.int .u32 (nt x : Nat)) = (pure (.int .u32 (nt (~~~x) : Nat)) : Sem Value) := by
  show Op.intBits .xor .u32 IntKind.u32.max (nt x : Nat) = _
  rw [← not_bv]; rfl
theorem unary_bv (x : Sh.W32) (w : World) : (Op.unary .xor (.int .u32 (nt x : Nat))).run Try.prog w = .ok (.int .u32 (nt (~~~x) : Nat)) w := by
  show (Op.intBits .xor .u32 IntKind.u32.max (nt x : Nat)).run Try.prog w = _
  rw [← not_bv]; rfl
theorem wp_notu {o : Oper} {a : Act} {w : World} {K : Act → World → Prop} {Q : Exit → Act → World → Prop} (t : TypeId) (s : Operand) (ho : o.op = .unOp .xor t s) (x : Sh.W32) (hx : a.eval s = .int .u32 (nt x : Nat))
    (h : K (a.put o.dst (.int .u32 (nt (~~~x) : Nat))) w) : o.wp Try.prog a w K Q := by
  unfold Oper.wp execOp
  rw [ho]
  simp only [hx, Sem.run_bind, unary_bv, Result.andThen, Sem.run_pure, Oper.upon]
  exact h
theorem wpList_notu {ops : Array Oper} {rest : List Oper} {o : Oper} {a : Act} {w : World} {Q : Exit → Act → World → Prop} (hg : o.guard = none) (t : TypeId) (s : Operand) (ho : o.op = .unOp .xor t s) (x : Sh.W32) (hx : a.eval s = .int .u32 (nt x : Nat))
    (h : wpList Try.prog ops Q rest (a.put o.dst (.int .u32 (nt (~~~x) : Nat))) w) : wpList Try.prog ops Q (o :: rest) a w :=
  wpList_plain hg fun _ hK => wp_notu t s ho x hx (hK _ _ h)
end Go.Proofs.Ytejipcnihgpdhaa
