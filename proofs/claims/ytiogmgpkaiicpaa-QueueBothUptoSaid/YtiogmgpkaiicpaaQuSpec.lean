/-
  Words for queues: what an order's function answers, what a queue holds. (The queue's own memory is told by the program's side: IsQ.)
-/
import Derived.Test.YtiogmgpkaiicpaaKInt
import Derived.Test.YtiogmgpkaiicpaaTurn
import Derived.Test.YtiogmgpkaiicpaaMem
import Derived.Test.YtiogmgpkaiicpaaLAns
import Derived.Test.YtiogmgpkaiicpaaQuMath
namespace Go.Proofs.Ytiogmgpkaiicpaa
open Go.RowKit
set_option linter.unusedVariables false

def intV (x : Int) : Value := .int .i64 x
def strV (s : ByteArray) : Value := .string s
def atV (x : Int × Int) : Value := .agg #[.int .i64 x.1, .int .i64 x.2]
def AtOk (x : Int × Int) : Prop := I64 x.1 ∧ I64 x.2
/-- The function value of a closure. -/
def fnV (fn : Nat) (caps : Array Value) : Value := .func (.func fn) #[] caps
/-- A call of this function enters it (it stands for no function of the machine's own). -/
def Enters (fn : Nat) : Prop := ∀ (args : Array Value) (w : World), (callFunc fn args).run Try.prog w = .ok (.enter fn args) w
theorem enters_of {f : Nat} {fn : Func} {c : Code} (hf : Try.prog.funcs[f]? = some fn) (hname : (fn.name == "runtime.NumGoroutine") = false) (hb : fn.body = some c) : Enters f := fun args w => by
  have h1 : fn.name ≠ "runtime.NumGoroutine" := by simpa using hname
  simp [callFunc, hf, h1, hb]
/-- The function answers this order, in whatever world in which but blocks of F, and new ones, were turned. -/
structure Less {α : Type} (val : α → Value) (ok : α → Prop) (fn : Nat) (caps : Array Value) (lt : α → α → Bool) (w : World) (F : Nat → Prop) : Prop where
  ent : Enters fn
  ans : ∀ a b, ok a → ok b → ∀ w', Turned F w w' → Calls Try.prog fn (#[val a, val b] ++ caps) w' (IsBool (lt a b) w')
theorem Less.step {α : Type} {val : α → Value} {ok : α → Prop} {fn : Nat} {caps : Array Value} {lt : α → α → Bool} {w w' : World} {F G : Nat → Prop} (h : Less val ok fn caps lt w F) (ht : Turned F w w') (hG : ∀ k, k < w.heap.size → G k → F k) : Less val ok fn caps lt w' G :=
  ⟨h.ent, fun a b ha hb w'' ht2 => h.ans a b ha hb w'' (ht.trans ht2 hG)⟩
theorem Less.mono {α : Type} {val : α → Value} {ok : α → Prop} {fn : Nat} {caps : Array Value} {lt : α → α → Bool} {w : World} {F G : Nat → Prop} (h : Less val ok fn caps lt w F) (hG : ∀ k, k < w.heap.size → G k → F k) : Less val ok fn caps lt w G :=
  ⟨h.ent, fun a b ha hb w'' ht2 => h.ans a b ha hb w'' (ht2.mono hG)⟩
end Go.Proofs.Ytiogmgpkaiicpaa
