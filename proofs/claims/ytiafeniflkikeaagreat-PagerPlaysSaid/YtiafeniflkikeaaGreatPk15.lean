/- Parts of the proof. -/
import Derived.Test.YtiafeniflkikeaaGreatPk14
import Derived.Test.YtiafeniflkikeaaGreatProg
import Derived.Test.YtiafeniflkikeaaGreatPk02
import Derived.WalkKit
import Derived.Outline
import Derived.Lib.Hide
import Derived.Test.YtiafeniflkikeaaGreatPk13
namespace Go.Proofs.YtiafeniflkikeaaGreat
open Go.RowKit
set_option linter.unusedVariables false
set_option maxHeartbeats 1000000 in
set_option maxRecDepth 100000 in
theorem left_any (g : Nat) (l : List Nat) (v : Value) (B B' : Nat) (w : World) (h : Bv w B (.slice (some ⟨g, 0, none⟩) (l.length + 3) (l.length + 3)) (l ++ [7, 7, 7])) (h' : Bv w B' v l) :
  Calls Tryz.prog 49 #[.slice (some ⟨g, 0, none⟩) l.length (l.length + 3), v] w (IsBool true w) := by
 have h1 := h.take_ (k := l.length) (by simp)
 rw [List.take_left] at h1
 have HS := Lib.hid (same_bv _ _ _ _ _ _ w h1 h')
 obtain ⟨A0, c0, e0, _, hc0, _, hts⟩ := h
 injection e0 with e1 e2 e3
 subst e1 e3
 unfold maxLen at hc0
 have hcell : ∀ j, j < 3 → w.cell? ⟨g, l.length + j, none⟩ = some (.int .u8 7) := by
  intro j hj
  obtain ⟨b, off, e4, _, hc⟩ := hts.2 (by simp)
  injection e4 with e4
  injection e4 with e5 e6
  subst e5 e6
  have h2 : (l ++ [7, 7, 7])[l.length + j]? = some 7 := by
   rw [List.getElem?_append_right (by omega)]
   have e : l.length + j - l.length = j := by omega
   rw [e]
   match j, hj with
   | 0, _ => rfl
   | 1, _ => rfl
   | 2, _ => rfl
  have h3 := hc _ _ h2
  rw [Nat.zero_add] at h3
  exact h3
 have k0 := hcell 0 (by omega)
 have k1 := hcell 1 (by omega)
 have k2 := hcell 2 (by omega)
 rw [Nat.add_zero] at k0
 obtain ⟨A, c, rfl, _, _, _, _⟩ := h'
 clear h1 hts hcell e2
 go_enter Tryz.func49, Tryz.ntmps49
 go_wp2_with fail
 ((with_reducible refine HS.out.mono ?_); rintro e w1 ⟨he, hb⟩)
 simp only [decide_true] at he
 subst he
 have m0 : w1.cell? ⟨g, l.length, none⟩ = some (.int .u8 7) := (hb.cell (p := ⟨g, l.length, none⟩) (World.block_lt_of_cell? w _ k0)).trans k0
 have m1 : w1.cell? ⟨g, l.length + 1, none⟩ = some (.int .u8 7) := (hb.cell (p := ⟨g, l.length + 1, none⟩) (World.block_lt_of_cell? w _ k1)).trans k1
 have m2 : w1.cell? ⟨g, l.length + 2, none⟩ = some (.int .u8 7) := (hb.cell (p := ⟨g, l.length + 2, none⟩) (World.block_lt_of_cell? w _ k2)).trans k2
 have HB := Lib.hid hb
 clear HS k0 k1 k2 hb
 go_wp2
 go_ret
 exact ⟨rfl, HB.out⟩
end Go.Proofs.YtiafeniflkikeaaGreat
namespace Go.Proofs.YtiafeniflkikeaaGreat
open Go.RowKit
set_option linter.unusedVariables false
set_option maxHeartbeats 400000 in
theorem len_any (n : Nat) (hn : Mt.B64 n) (w : World) :
  Calls Tryz.prog 135 #[.int .u64 n] w fun e w' => e = .returned (.int .i64 (Mt.put n).length) ∧ w = w' := by
 have hl := Mt.put_length hn
 have hd := Mt.b64_div hn
 have HL : Hid ((Mt.put n).length = 1 + Mt.ln (n / 128)) := hl
 clear hl
 go_enter Tryz.func135, Tryz.ntmps135
 go_wp2
 go_loop [0, 3] (fun m z => ∃ (q k : Nat), Mt.B64 q ∧ k ≤ 10 ∧ m = .int .u64 q ∧ z = .int .i64 k ∧ Hid ((Mt.put n).length = k + Mt.ln q)) (fun m _ => (intOf m).toNat)
 case atStart => exact ⟨n / 128, 1, hd, by omega, by simp, rfl, HL⟩
 case round =>
  obtain ⟨q, k, hq, hk, rfl, rfl, HR⟩ := hrel
  by_cases h : 0 < q
  ·have hs := Mt.ln_step hq h
   have h1 := Mt.b64_div hq
   have h2 := Mt.put_len_le n
   have h3 := HR.out
   have H4 : Hid ((Mt.put n).length = (k + 1) + Mt.ln (q / 128)) := by unfold Hid; omega
   have h5 : k + 1 ≤ 10 := by omega
   clear hs h2 h3 HR HL
   go_wp2
   go_round
   case rel => exact ⟨q / 128, k + 1, h1, h5, by simp, by go_num, H4⟩
   case measure => simp [intOf]; omega
  ·have h0 : q = 0 := by omega
   subst h0
   go_wp2
   go_ret
   exact ⟨by rw [HR.out, Mt.ln_zero]; rfl, rfl⟩
end Go.Proofs.YtiafeniflkikeaaGreat
namespace Go.Proofs.YtiafeniflkikeaaGreat
section
variable {P : Program} {ops : Array Oper} {Q : Exit → Act → World → Prop} {md : Region.Mode} {S : World → Prop} {L : Nat}
theorem zM {i : Nat} {oi : Oper} {v : Value} {fuel : Nat} {listed : Array Bool} {a : Act} {w : World} (hi : ops[i]? = some oi)
 (hc : (Region.noSelect ops && (Region.free md ops listed i && ((Region.ready md ops listed).contains i && (closedB md ops listed && (List.range ops.size).all fun j => decide (j < L) || reachB md ops 40 j i)))) = true)
 (hQ : ∀ c a w, Q (.panic c) (a.put oi.dst v) w → Q (.panic c) a w) (hS : S w) (hy : YieldsIf P ops S oi v a)
 (h : wpAnyM P md ops Q S L fuel (listed.setIfInBounds i true) (a.put oi.dst v) w) : wpAnyM P md ops Q S L (fuel + 1) listed a w :=
 wpAnyM_take hi (Bool.and_eq_true_iff.1 hc).1 (Bool.and_eq_true_iff.1 (Bool.and_eq_true_iff.1 hc).2).1 (Bool.and_eq_true_iff.1 (Bool.and_eq_true_iff.1 (Bool.and_eq_true_iff.1 hc).2).2).1 (Bool.and_eq_true_iff.1 (Bool.and_eq_true_iff.1 (Bool.and_eq_true_iff.1 hc).2).2).2 hQ hS hy h
theorem zH {i : Nat} {oi : Oper} {v : Value} {fuel : Nat} {listed : Array Bool} {a : Act} {w : World} (hi : ops[i]? = some oi)
 (hc : (Region.noSelect ops && (Region.free md ops listed i && (Region.ready md ops listed).contains i)) = true)
 (hQ : ∀ c a w, Q (.panic c) (a.put oi.dst v) w → Q (.panic c) a w) (hy : YieldsIf P ops S oi v a) (hS : S w)
 (h : wpAnyH P md ops Q S fuel (listed.setIfInBounds i true) (a.put oi.dst v) w) : wpAnyH P md ops Q S (fuel + 1) listed a w :=
 wpAnyH_take hi (Bool.and_eq_true_iff.1 hc).1 (Bool.and_eq_true_iff.1 (Bool.and_eq_true_iff.1 hc).2).1 (Bool.and_eq_true_iff.1 (Bool.and_eq_true_iff.1 hc).2).2 hQ hy hS h
end
end Go.Proofs.YtiafeniflkikeaaGreat
namespace Go.Proofs.YtiafeniflkikeaaGreat
theorem zA {α : Type _} {xs : List α} {i : Nat} (h : i < xs.toArray.size) : xs.toArray[i] = xs[i]'(by simpa using h) := rfl
theorem zB {α : Type _} {a : α} {ys : List α} {i : Nat} (h : i + 1 < (a :: ys).length) : (a :: ys)[i + 1] = ys[i]'(Nat.lt_of_succ_lt_succ h) := rfl
theorem zC {α : Type _} {a : α} {ys : List α} (h : 0 < (a :: ys).length) : (a :: ys)[0] = a := rfl
theorem zD {α : Type _} (l : List α) (i : Nat) (a : α) : l.toArray.setIfInBounds i a = (l.set i a).toArray := List.setIfInBounds_toArray l i a
theorem zE {α : Type _} {x : α} {xs : List α} {a : α} : (x :: xs).set 0 a = a :: xs := rfl
theorem zF {α : Type _} {x : α} {xs : List α} {i : Nat} {a : α} : (x :: xs).set (i + 1) a = x :: xs.set i a := rfl
end Go.Proofs.YtiafeniflkikeaaGreat
