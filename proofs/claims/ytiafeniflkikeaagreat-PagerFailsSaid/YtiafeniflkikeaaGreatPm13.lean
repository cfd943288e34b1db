/- Parts of the proof. -/
import Derived.Test.YtiafeniflkikeaaGreatPm05
import Derived.Test.YtiafeniflkikeaaGreatPm04
import Derived.Test.YtiafeniflkikeaaGreatProg
import Derived.Test.YtiafeniflkikeaaGreatPm02
import Derived.WalkKit
import Derived.Outline
import Derived.Lib.Hide
import Derived.Test.YtiafeniflkikeaaGreatPm12
namespace Go.Proofs.YtiafeniflkikeaaGreat
open Go.RowKit
set_option linter.unusedVariables false
def IsKL (r : Nat × List Nat × Nat) (w : World) (e : Ending) (w' : World) : Prop :=
 ∃ A c, e = .returned (.tuple #[.int .u8 (r.1 : Nat), .slice A r.2.1.length c, .int .i64 (r.2.2 : Nat)]) ∧ OwnL yK w' w.heap.size (.slice A r.2.1.length c) r.2.1 ∧ Below w.heap.size w w'
theorem IsKL.none_b {w w' : World} {r : Nat × List Nat × Nat} {e : Nat} {x y : Int} (h : r = (0, [], e)) (hx : x = (e : Nat)) (hy : y = 0) (hb : Below w.heap.size w w') : IsKL r w (.returned (.tuple #[.int .u8 y, .slice none 0 0, .int .i64 x])) w' := by
 subst h hx hy; exact ⟨none, 0, rfl, OwnL.nil_ _ _ _, hb⟩
theorem IsKL.of {w w' : World} {r : Nat × List Nat × Nat} {k n c : Nat} {l : List Nat} {A : Option Addr} {x : Int} (h : r = (k, l, 0)) (hn : n = l.length) (hx : x = 0) (ho : OwnL yK w' w.heap.size (.slice A n c) l) (hb : Below w.heap.size w w') :
  IsKL r w (.returned (.tuple #[.int .u8 (k : Nat), .slice A n c, .int .i64 x])) w' := by
 subst h hx hn; exact ⟨A, c, rfl, ho, hb⟩
end Go.Proofs.YtiafeniflkikeaaGreat
namespace Go.Proofs.YtiafeniflkikeaaGreat
open Go.RowKit
set_option linter.unusedVariables false
set_option maxHeartbeats 400000 in
theorem len_any (n : Nat) (hn : Mt.B64 n) (w : World) :
  Calls Tryz.prog 135 #[.int .u64 n] w fun e w' => e = .returned (.int .i64 (Mt.put n).length) ∧ w = w' := by
 have hl := Mt.put_length hn
 have hd := Mt.b64_div hn
 have HL : Hid ((Mt.put n).length = 1 + Mt.ln (n / 128)) := hl
 clear hl
 go_enter Tryz.func135, Tryz.ntmps135
 go_wp2
 go_loop [0, 3] (fun m z => ∃ (q k : Nat), Mt.B64 q ∧ k ≤ 10 ∧ m = .int .u64 q ∧ z = .int .i64 k ∧ Hid ((Mt.put n).length = k + Mt.ln q)) (fun m _ => (intOf m).toNat)
 case atStart => exact ⟨n / 128, 1, hd, by omega, by simp, rfl, HL⟩
 case round =>
  obtain ⟨q, k, hq, hk, rfl, rfl, HR⟩ := hrel
  by_cases h : 0 < q
  ·have hs := Mt.ln_step hq h
   have h1 := Mt.b64_div hq
   have h2 := Mt.put_len_le n
   have h3 := HR.out
   have H4 : Hid ((Mt.put n).length = (k + 1) + Mt.ln (q / 128)) := by unfold Hid; omega
   have h5 : k + 1 ≤ 10 := by omega
   clear hs h2 h3 HR HL
   go_wp2
   go_round
   case rel => exact ⟨q / 128, k + 1, h1, h5, by simp, by go_num, H4⟩
   case measure => simp [intOf]; omega
  ·have h0 : q = 0 := by omega
   subst h0
   go_wp2
   go_ret
   exact ⟨by rw [HR.out, Mt.ln_zero]; rfl, rfl⟩
end Go.Proofs.YtiafeniflkikeaaGreat
namespace Go.Proofs.YtiafeniflkikeaaGreat
section
variable {P : Program} {ops : Array Oper} {Q : Exit → Act → World → Prop} {md : Region.Mode} {S : World → Prop} {L : Nat}
theorem zM {i : Nat} {oi : Oper} {v : Value} {fuel : Nat} {listed : Array Bool} {a : Act} {w : World} (hi : ops[i]? = some oi)
 (hc : (Region.noSelect ops && (Region.free md ops listed i && ((Region.ready md ops listed).contains i && (closedB md ops listed && (List.range ops.size).all fun j => decide (j < L) || reachB md ops 40 j i)))) = true)
 (hQ : ∀ c a w, Q (.panic c) (a.put oi.dst v) w → Q (.panic c) a w) (hS : S w) (hy : YieldsIf P ops S oi v a)
 (h : wpAnyM P md ops Q S L fuel (listed.setIfInBounds i true) (a.put oi.dst v) w) : wpAnyM P md ops Q S L (fuel + 1) listed a w :=
 wpAnyM_take hi (Bool.and_eq_true_iff.1 hc).1 (Bool.and_eq_true_iff.1 (Bool.and_eq_true_iff.1 hc).2).1 (Bool.and_eq_true_iff.1 (Bool.and_eq_true_iff.1 (Bool.and_eq_true_iff.1 hc).2).2).1 (Bool.and_eq_true_iff.1 (Bool.and_eq_true_iff.1 (Bool.and_eq_true_iff.1 hc).2).2).2 hQ hS hy h
theorem zH {i : Nat} {oi : Oper} {v : Value} {fuel : Nat} {listed : Array Bool} {a : Act} {w : World} (hi : ops[i]? = some oi)
 (hc : (Region.noSelect ops && (Region.free md ops listed i && (Region.ready md ops listed).contains i)) = true)
 (hQ : ∀ c a w, Q (.panic c) (a.put oi.dst v) w → Q (.panic c) a w) (hy : YieldsIf P ops S oi v a) (hS : S w)
 (h : wpAnyH P md ops Q S fuel (listed.setIfInBounds i true) (a.put oi.dst v) w) : wpAnyH P md ops Q S (fuel + 1) listed a w :=
 wpAnyH_take hi (Bool.and_eq_true_iff.1 hc).1 (Bool.and_eq_true_iff.1 (Bool.and_eq_true_iff.1 hc).2).1 (Bool.and_eq_true_iff.1 (Bool.and_eq_true_iff.1 hc).2).2 hQ hy hS h
end
end Go.Proofs.YtiafeniflkikeaaGreat
namespace Go.Proofs.YtiafeniflkikeaaGreat
theorem zA {α : Type _} {xs : List α} {i : Nat} (h : i < xs.toArray.size) : xs.toArray[i] = xs[i]'(by simpa using h) := rfl
theorem zB {α : Type _} {a : α} {ys : List α} {i : Nat} (h : i + 1 < (a :: ys).length) : (a :: ys)[i + 1] = ys[i]'(Nat.lt_of_succ_lt_succ h) := rfl
theorem zC {α : Type _} {a : α} {ys : List α} (h : 0 < (a :: ys).length) : (a :: ys)[0] = a := rfl
theorem zD {α : Type _} (l : List α) (i : Nat) (a : α) : l.toArray.setIfInBounds i a = (l.set i a).toArray := List.setIfInBounds_toArray l i a
theorem zE {α : Type _} {x : α} {xs : List α} {a : α} : (x :: xs).set 0 a = a :: xs := rfl
theorem zF {α : Type _} {x : α} {xs : List α} {i : Nat} {a : α} : (x :: xs).set (i + 1) a = x :: xs.set i a := rfl
end Go.Proofs.YtiafeniflkikeaaGreat
