/- Parts of the proof. -/
import Derived.Test.YtiafeniflkikeaaGreatProg
import Derived.WalkKit
import Derived.StillTailTactics
import Derived.Deep.WholeRow
import Derived.Test.YtiafeniflkikeaaGreatPk05
import Derived.Test.YtiafeniflkikeaaGreatPk04
import Derived.Deep.QuietTactic
import Derived.BigQuiet
import Derived.Test.YtiafeniflkikeaaGreatPk08
namespace Go.Proofs.YtiafeniflkikeaaGreat
open Go.RowKit
set_option linter.unusedVariables false
section
variable {P : Program} {ops : Array Oper} {Q : Exit → Act → World → Prop} {md : Region.Mode}
theorem ready_false {listed : Array Bool} {i : Nat} (h : i ∈ Region.ready md ops listed) : listed.toList[i]? = some false := by
 have h1 := (mem_ready.1 h).1
 rcases Nat.lt_or_ge i listed.size with h' | h'
 ·simp [h'] at h1
  simp [h', h1]
 ·simp [Array.getElem?_eq_none h'] at h1
theorem wpOp_some {i : Nat} {o : Oper} {K : Act → World → Prop} {a : Act} {w : World} (hi : ops[i]? = some o) (hg : o.guard = none) (h : o.wp P a w K Q) : wpOp P ops Q i K a w := by
 unfold wpOp
 simp only [hi]
 rw [if_pos (by simp [Region.wanted, hg])]
 exact .inl h
theorem ready_has {listed : Array Bool} {i : Nat} {o : Oper} (h : i ∈ Region.ready md ops listed) (hi : ops[i]? = some o) {e : Edge} (he : e ∈ o.after) (hb : Region.binds md e = true) : listed.getD e.on false = true := by
 obtain ⟨_, o', ho', hall⟩ := mem_ready.1 h
 have : o' = o := Option.some.inj (ho'.symm.trans hi)
 subst this
 exact hall e he hb
theorem ready_done {listed : Array Bool} {i : Nat} {o : Oper} (h : Region.ready md ops listed = []) (hi : ops[i]? = some o) (hl : i < listed.size)
  (ha : ∀ e ∈ o.after, Region.binds md e = true → listed.getD e.on false = true) : listed.getD i false = true := by
 cases hb : listed.getD i false with
 | true => rfl
 | false =>
  have : i ∈ Region.ready md ops listed := mem_ready.2 ⟨by simp [hl] at hb ⊢; exact hb, o, hi, ha⟩
  rw [h] at this
  cases this
theorem ready_not {listed : Array Bool} {i : Nat} (h : i ∈ Region.ready md ops listed) : listed.getD i false = false := by
 have h1 := ready_false h
 obtain ⟨hlt, he⟩ := List.getElem?_eq_some_iff.1 h1
 simp at hlt he
 simp [hlt, he]
theorem getD_bits {listed : Array Bool} {i : Nat} (h : i < listed.size) (j : Nat) : (listed.setIfInBounds i true).getD j false = (decide (i = j) || listed.getD j false) := by
 by_cases hij : i = j
 ·subst hij
  simp [h]
 ·simp [Array.getElem?_setIfInBounds_ne hij, hij]
end
end Go.Proofs.YtiafeniflkikeaaGreat
namespace Go.Proofs.YtiafeniflkikeaaGreat
open Go.RowKit
set_option linter.unusedVariables false
def IsKL (r : Nat × List Nat × Nat) (w : World) (e : Ending) (w' : World) : Prop :=
 ∃ A c, e = .returned (.tuple #[.int .u8 (r.1 : Nat), .slice A r.2.1.length c, .int .i64 (r.2.2 : Nat)]) ∧ OwnL yK w' w.heap.size (.slice A r.2.1.length c) r.2.1 ∧ Below w.heap.size w w'
theorem IsKL.none_b {w w' : World} {r : Nat × List Nat × Nat} {e : Nat} {x y : Int} (h : r = (0, [], e)) (hx : x = (e : Nat)) (hy : y = 0) (hb : Below w.heap.size w w') : IsKL r w (.returned (.tuple #[.int .u8 y, .slice none 0 0, .int .i64 x])) w' := by
 subst h hx hy; exact ⟨none, 0, rfl, OwnL.nil_ _ _ _, hb⟩
theorem IsKL.of {w w' : World} {r : Nat × List Nat × Nat} {k n c : Nat} {l : List Nat} {A : Option Addr} {x : Int} (h : r = (k, l, 0)) (hn : n = l.length) (hx : x = 0) (ho : OwnL yK w' w.heap.size (.slice A n c) l) (hb : Below w.heap.size w w') :
  IsKL r w (.returned (.tuple #[.int .u8 (k : Nat), .slice A n c, .int .i64 x])) w' := by
 subst h hx hn; exact ⟨A, c, rfl, ho, hb⟩
end Go.Proofs.YtiafeniflkikeaaGreat
namespace Go.Proofs.YtiafeniflkikeaaGreat
open Go.RowKit
set_option linter.unusedVariables false
theorem take_eq_succ {la lb : List Nat} {k a b : Nat} (h : la.take k = lb.take k) (ha : la.drop k = a :: la.drop (k + 1)) (hb : lb.drop k = b :: lb.drop (k + 1)) : (la.take (k + 1) = lb.take (k + 1)) ↔ a = b := by
 have h1 : la.take (k + 1) = la.take k ++ [a] := by
  have := List.take_add (l := la) (i := k) (j := 1)
  rw [this, ha]; rfl
 have h2 : lb.take (k + 1) = lb.take k ++ [b] := by
  have := List.take_add (l := lb) (i := k) (j := 1)
  rw [this, hb]; rfl
 rw [h1, h2, h]
 simp
theorem take_ne {la lb : List Nat} {k : Nat} (h : la.take k ≠ lb.take k) : la ≠ lb := fun e => h (by rw [e])
set_option maxHeartbeats 400000 in
theorem same_ne (A A' : Option Addr) (la lb : List Nat) (c c' : Nat) (w : World) (hlen : la.length ≤ maxLen) (hlen' : lb.length ≤ maxLen) (hne : la.length ≠ lb.length) :
  Calls Tryz.prog 40 #[.slice A la.length c, .slice A' lb.length c'] w (IsBool false w) := by
 unfold maxLen at hlen hlen'
 have hq : (((la.length : Nat) : Int) != ((lb.length : Nat) : Int)) = true := by rw [bne_iff_ne]; omega
 go_enter Tryz.func40, Tryz.ntmps40
 go_wp2
 go_ret
 exact ⟨rfl, Below.refl _ _⟩
set_option maxHeartbeats 400000 in
theorem same_eq (A A' : Option Addr) (la lb : List Nat) (c c' B B' : Nat) (w : World) (ha : Bts w B A la) (hb : Bts w B' A' lb) (hlen : la.length ≤ maxLen) (heq : la.length = lb.length) :
  Calls Tryz.prog 40 #[.slice A la.length c, .slice A' lb.length c'] w (IsBool (decide (la = lb)) w) := by
 unfold maxLen at hlen
 have hq : (((la.length : Nat) : Int) != ((lb.length : Nat) : Int)) = false := by rw [heq]; simp
 have HE := Lib.hid heq
 have hle : la.length ≤ lb.length := by omega
 have hge : lb.length ≤ la.length := by omega
 clear heq
 go_enter Tryz.func40, Tryz.ntmps40
 go_wp2
 go_loopw [5] (fun i wr => ∃ k : Nat, k ≤ la.length ∧ i = .int .i64 k ∧ Hid (la.take k = lb.take k) ∧ Below w.heap.size w wr ∧ Hid (Bts wr B A la) ∧ Hid (Bts wr B' A' lb)) (fun i _ => la.length - (intOf i).toNat)
 case atStart => exact ⟨0, by omega, rfl, by simp [Hid], Below.refl _ _, ha, hb⟩
 case round =>
  obtain ⟨k, hk, rfl, HT, hbel, HA, HB⟩ := hrel
  by_cases hlt : k < la.length
  ·obtain ⟨b1, o1, x, rfl, hb1, hx, hd, hcell⟩ := HA.out.at_ hlt
   obtain ⟨b2, o2, y, rfl, hb2, hy, hd', hcell'⟩ := HB.out.at_ (k := k) (by omega)
   have HS := Lib.hid (take_eq_succ HT.out hd hd')
   clear hd hd' ha hb
   have hlt' : k < lb.length := by omega
   by_cases hxy : x = y
   ·subst hxy
    have hq2 : ((x : Int) != (x : Int)) = false := by simp
    go_wp2
    go_quiet (fail)
    go_wp2
    go_roundw
    case rel => exact ⟨k + 1, by omega, by go_num, HS.out.2 (by simp), below_drewN hbel _, HA.out, HB.out⟩
    case measure => simp [intOf]; omega
   ·have hq2 : ((x : Int) != (y : Int)) = true := by rw [bne_iff_ne]; omega
    go_wp2
    go_quiet (fail)
    go_wp2
    go_ret
    have hne : la ≠ lb := take_ne (fun e => hxy (HS.out.1 e))
    exact ⟨by simp [hne], below_drewN hbel _⟩
  ·go_wp2
   go_ret
   have h0 : k = la.length := by omega
   have h1 : la = lb := by
    have := HT.out
    rw [List.take_of_length_le (by omega), List.take_of_length_le (by omega)] at this
    exact this
   exact ⟨by simp [h1], hbel⟩
theorem same_any (A A' : Option Addr) (la lb : List Nat) (c c' B B' : Nat) (w : World) (ha : Bts w B A la) (hb : Bts w B' A' lb) (hlen : la.length ≤ maxLen) (hlen' : lb.length ≤ maxLen) :
  Calls Tryz.prog 40 #[.slice A la.length c, .slice A' lb.length c'] w (IsBool (decide (la = lb)) w) := by
 by_cases h : la.length = lb.length
 ·exact same_eq A A' la lb c c' B B' w ha hb hlen h
 ·have hne : la ≠ lb := fun e => h (by rw [e])
  have := same_ne A A' la lb c c' w hlen hlen' h
  simpa [hne] using this
end Go.Proofs.YtiafeniflkikeaaGreat
namespace Go.Proofs.YtiafeniflkikeaaGreat
open Go.RowKit
theorem same_bv (v v' : Value) (la lb : List Nat) (B B' : Nat) (w : World) (h : Bv w B v la) (h' : Bv w B' v' lb) :
  Calls Tryz.prog 40 #[v, v'] w (IsBool (decide (la = lb)) w) := by
 obtain ⟨A, c, rfl, h1, h2, h3, h4⟩ := h
 obtain ⟨A', c', rfl, h1', h2', h3', h4'⟩ := h'
 exact same_any A A' la lb c c' B B' w h4 h4' (by omega) (by omega)
end Go.Proofs.YtiafeniflkikeaaGreat
