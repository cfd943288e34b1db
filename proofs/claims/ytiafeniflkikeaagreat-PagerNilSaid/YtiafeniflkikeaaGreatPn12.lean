/- Parts of the proof. -/
import Derived.Test.YtiafeniflkikeaaGreatPn11
import Derived.Test.YtiafeniflkikeaaGreatPn10
import Derived.Test.YtiafeniflkikeaaGreatPn02
import Derived.Test.YtiafeniflkikeaaGreatPn05
import Derived.Test.YtiafeniflkikeaaGreatPn08
import Derived.SizedLaws
import Derived.Test.YtiafeniflkikeaaGreatPn07
namespace Go.Proofs.YtiafeniflkikeaaGreat
open Go.RowKit
set_option linter.unusedVariables false
structure RawP where
 n : Nat
 state : Nat
 kind : Nat
 A : Option Addr
 m : Nat
 c : Nat
section
variable {P : Program} {α : Type} {K : El P α} {w w' : World} {R S F : Nat → Prop} {v : Value} {l : List α}
end
section
variable {w w' : World} {R S F : Nat → Prop} {v : Value} {l : List Pa.Page} {us : List RawP} {x : RawP} {o : Pa.Page}
end
section
variable {w w' : World} {R S F : Nat → Prop} {v : Value} {m : Pa.M}
end
end Go.Proofs.YtiafeniflkikeaaGreat
namespace Go.Proofs.YtiafeniflkikeaaGreat
open Go.ChangeShapes Go.WideShapes Go.ChangeAt Go.RowKit
set_option linter.unusedVariables false
end Go.Proofs.YtiafeniflkikeaaGreat
namespace Go.Proofs.YtiafeniflkikeaaGreat
open Go.ChangeShapes Go.WideShapes Go.RowKit Go.Deep
set_option linter.unusedVariables false
end Go.Proofs.YtiafeniflkikeaaGreat
namespace Go.Proofs.YtiafeniflkikeaaGreat
open Go.ChangeShapes Go.WideShapes Go.RowKit Go.Deep
set_option linter.unusedVariables false
namespace Pa
structure Act where
 do_ : Int
 n : Int
 any : Bool
 kind : Nat
 body : List Nat
 root : Rt.Root
end Pa
structure RawT where
 do_ : Int
 n : Int
 any : Bool
 kind : Nat
 A : Option Addr
 m : Nat
 c : Nat
 root : Rt.Root
def RawTOk (x : RawT) : Prop := I64 x.do_ ∧ I64 x.n ∧ x.kind < 256 ∧ Rt.Fit x.root
def actL (x : RawT) : List Value := [.int .i64 x.do_, .int .i64 x.n, .bool x.any, .int .u8 (x.kind : Nat), .slice x.A x.m x.c, .int .u64 (x.root.seq : Nat), .int .i64 x.root.page, .int .i64 x.root.pages, .int .u64 (x.root.lsn : Nat), .int .u64 (x.root.next : Nat), .int .i64 x.root.shard, .int .i64 x.root.tail]
def tK : El Tryz.prog RawT where
 e := 42
 s := 22
 size := 12
 bytes := 104
 zero := .agg #[.int .i64 0, .int .i64 0, .bool false, .int .u8 0, .slice none 0 0, .int .u64 0, .int .i64 0, .int .i64 0, .int .u64 0, .int .u64 0, .int .i64 0, .int .i64 0]
 z := ⟨0, 0, false, 0, none, 0, 0, Rt.zero⟩
 enc := actL
 ok := RawTOk
 len := fun _ => rfl
 one := fun x u hu => by simp [actL] at hu; rcases hu with rfl | rfl | rfl | rfl | rfl | rfl | rfl | rfl | rfl | rfl | rfl | rfl <;> rfl
 okz := ⟨by simp [I64], by simp [I64], by decide, Rt.fit_zero⟩
 encz := rfl
 pos := by decide
 under := Tryz.underlying22
 info := by kernel_rfl
def ActOf (w : World) (B : Nat) (x : RawT) (o : Pa.Act) : Prop :=
 o.do_ = x.do_ ∧ o.n = x.n ∧ o.any = x.any ∧ o.kind = x.kind ∧ o.root = x.root ∧ Lv yK w B (.slice x.A x.m x.c) o.body
def Av (w : World) (B : Nat) (v : Value) (l : List Pa.Act) : Prop :=
 ∃ us : List RawT, us.length = l.length ∧ Lv tK w B v us ∧ ∀ (j : Nat) (x : RawT) (o : Pa.Act), us[j]? = some x → l[j]? = some o → ActOf w B x o
section
variable {w w' : World} {B : Nat} {v : Value} {l : List Pa.Act}
end
end Go.Proofs.YtiafeniflkikeaaGreat
