/- Parts of the proof. -/
import Derived.Test.YtiafeniflkikeaaGreatPn12
import Derived.Test.YtiafeniflkikeaaGreatPn42
import Derived.BigQuiet
import Derived.Test.YtiafeniflkikeaaGreatPn16
import Derived.Test.YtiafeniflkikeaaGreatPn33
import Derived.Test.YtiafeniflkikeaaGreatPn01
import Derived.Deep.QuietTactic
namespace Go.Proofs.YtiafeniflkikeaaGreat
open Go.RowKit
set_option linter.unusedVariables false
namespace Pa
def placeOf (n : Int) : Int := if n < 0 then -(n + 1) else n
end Pa
end Go.Proofs.YtiafeniflkikeaaGreat
namespace Go.Proofs.YtiafeniflkikeaaGreat
open Go.RowKit
set_option linter.unusedVariables false
structure Pp.Well (t : Sf.St) (name : ByteArray) (k : Nat) (F : List Nat) : Prop where
 dead : t.dead = false
 fuse : t.fuse = 0
 get : Sf.get t name = (k, 0)
 file : Sf.now (Sf.fileAt t k) = F
 room : Sf.used t ≤ t.room
 nums : (t.seen.map (·.2)).Nodup
def Pp.cost (s : Pp.S) (t : Sf.St) : Nat := max t.acts s.turns
theorem Pp.But.get {k j : Nat} {t t' : Sf.St} {u : ByteArray} (h : Pp.But k t t') (hd : t.dead = t'.dead) (hg : Sf.get t u = (j, 0)) : Sf.get t' u = (j, 0) := by
 rw [← hg]
 unfold Sf.get
 rw [h.seen, hd]
theorem Pp.Goes.tn {s : Pp.S} {F : List Nat} {m : Pa.M} (n : Nat) (h : Pp.Goes s F m) : Pp.Goes { s with turns := n } F m := ⟨h.root, h.l, h.ok, h.size, h.page, h.less, h.told⟩
theorem Pp.Goes.keeps {s : Pp.S} {F F' : List Nat} {m : Pa.M} (h : Pp.Goes s F m) (hk : Pp.Keeps s F F') : Pp.Goes s F' m := by
 refine ⟨h.root, h.l, h.ok, by rw [hk.len]; exact h.size, fun x hx hs => ?_, h.less, by rw [hk.told]; exact h.told⟩
 obtain ⟨z, hz, e⟩ := Pp.mem_bare h.l hx
 have hzs : z.state ≠ 2 := by rw [← Pp.bare_state z, e, Pp.bare_state]; exact hs
 have hzn : z.n = x.n := by rw [← Pp.bare_n z, e, Pp.bare_n]
 have h1 := h.page x hx hs
 have h2 := hk.used z hz hzs
 rw [hzn] at h2
 unfold Pp.rdE at h1 ⊢
 rw [hk.len, h2]
 exact h1
theorem Pp.Com.goes {s s' : Pp.S} {F F' : List Nat} {t t' : Sf.St} {k x : Nat} {r : Rt.Root} {m : Pa.M} {free : Int} (h : Pp.Com s F t k r x s' F' t') (hg : Pp.Goes s F m) (hw : Pp.Well t s.name k F) (hf : free = (t.room : Int) - Sf.used t) :
  x = (Pa.commit m r free).2 ∧ Pp.Goes s' F' (Pa.commit m r free).1 ∧ Pp.Well t' s.name k F' ∧ s'.name = s.name ∧ s'.cache = s.cache ∧ t'.room = t.room ∧ Pp.cost s' t' ≤ Pp.cost s t + 200000 := by
 have he := Pp.commit_eq hg r free
 rw [hf] at he ⊢
 have hlt : Sf.len t k = F.length := by unfold Sf.len; rw [hw.file]
 cases h with
 | arg h1 =>
  rw [he.1] at h1
  exact ⟨h1.symm, by rw [Pp.commit_no (by rw [h1]; decide)]; exact hg, hw, rfl, rfl, rfl, by omega⟩
 | done F' t' tn h1 h2 h3 h4 h5 h6 h7 h8 =>
  have h9 := h1
  rw [he.1] at h1
  have hlen := h2.len
  rw [he.2] at h2
  have hu := Sf.used_set hw.get hw.nums h3.seen h5 (fun j hj => by unfold Sf.len; rw [h3.file j hj])
  have hl' : Sf.len t' k = F'.length := by unfold Sf.len; rw [h4]; rfl
  have hge : ¬ ((t.room : Int) - Sf.used t) < (Pa.sizeL F.length s.l : Int) - (F.length : Int) := fun hlt => by
   unfold Pa.commit at h9
   split at h9
   ·simp at h9
   ·rw [if_pos (show ((t.room : Int) - Sf.used t) < (Pa.sizeL (Pp.asM s F).size (Pp.asM s F).l : Int) - (Pp.asM s F).size from hlt)] at h9
    simp at h9
  have hw1 := hw.room
  refine ⟨h1.symm, by rw [he.2]; exact Pp.Goes.tn _ (Pp.Goes.commit hg h1 h2), ⟨h5, h6 hw.fuse, h3.get (by rw [hw.dead, h5]) hw.get, by rw [h4]; rfl, by rw [h3.room]; omega, by rw [h3.seen]; exact hw.nums⟩, rfl, rfl, h3.room, ?_⟩
  unfold Pp.cost
  simp only
  omega
 | full F' t' h1 h2 h3 hk h5 h6 h7 =>
  rw [he.1] at h1
  have hu := Sf.used_set hw.get hw.nums h2.seen h5 (fun j hj => by unfold Sf.len; rw [h2.file j hj])
  have hl' : Sf.len t' k = F'.length := by unfold Sf.len; rw [h3]
  have hkl := hk.len
  have hw1 := hw.room
  refine ⟨h1.symm, by rw [Pp.commit_no (by rw [h1]; decide)]; exact hg.keeps hk, ⟨h5, h6 hw.fuse, h2.get (by rw [hw.dead, h5]) hw.get, h3, by rw [h2.room]; omega, by rw [h2.seen]; exact hw.nums⟩, rfl, rfl, h2.room, ?_⟩
  unfold Pp.cost
  omega
 | dead e s' F' t' h1 h2 => exact absurd hw.fuse h2
end Go.Proofs.YtiafeniflkikeaaGreat
namespace Go.Proofs.YtiafeniflkikeaaGreat
open Go.RowKit
set_option linter.unusedVariables false
theorem take_eq_succ {la lb : List Nat} {k a b : Nat} (h : la.take k = lb.take k) (ha : la.drop k = a :: la.drop (k + 1)) (hb : lb.drop k = b :: lb.drop (k + 1)) : (la.take (k + 1) = lb.take (k + 1)) ↔ a = b := by
 have h1 : la.take (k + 1) = la.take k ++ [a] := by
  have := List.take_add (l := la) (i := k) (j := 1)
  rw [this, ha]; rfl
 have h2 : lb.take (k + 1) = lb.take k ++ [b] := by
  have := List.take_add (l := lb) (i := k) (j := 1)
  rw [this, hb]; rfl
 rw [h1, h2, h]
 simp
theorem take_ne {la lb : List Nat} {k : Nat} (h : la.take k ≠ lb.take k) : la ≠ lb := fun e => h (by rw [e])
set_option maxHeartbeats 400000 in
theorem same_ne (A A' : Option Addr) (la lb : List Nat) (c c' : Nat) (w : World) (hlen : la.length ≤ maxLen) (hlen' : lb.length ≤ maxLen) (hne : la.length ≠ lb.length) :
  Calls Tryz.prog 40 #[.slice A la.length c, .slice A' lb.length c'] w (IsBool false w) := by
 unfold maxLen at hlen hlen'
 have hq : (((la.length : Nat) : Int) != ((lb.length : Nat) : Int)) = true := by rw [bne_iff_ne]; omega
 go_enter Tryz.func40, Tryz.ntmps40
 go_wp2
 go_ret
 exact ⟨rfl, Below.refl _ _⟩
set_option maxHeartbeats 400000 in
theorem same_eq (A A' : Option Addr) (la lb : List Nat) (c c' B B' : Nat) (w : World) (ha : Bts w B A la) (hb : Bts w B' A' lb) (hlen : la.length ≤ maxLen) (heq : la.length = lb.length) :
  Calls Tryz.prog 40 #[.slice A la.length c, .slice A' lb.length c'] w (IsBool (decide (la = lb)) w) := by
 unfold maxLen at hlen
 have hq : (((la.length : Nat) : Int) != ((lb.length : Nat) : Int)) = false := by rw [heq]; simp
 have HE := Lib.hid heq
 have hle : la.length ≤ lb.length := by omega
 have hge : lb.length ≤ la.length := by omega
 clear heq
 go_enter Tryz.func40, Tryz.ntmps40
 go_wp2
 go_loopw [5] (fun i wr => ∃ k : Nat, k ≤ la.length ∧ i = .int .i64 k ∧ Hid (la.take k = lb.take k) ∧ Below w.heap.size w wr ∧ Hid (Bts wr B A la) ∧ Hid (Bts wr B' A' lb)) (fun i _ => la.length - (intOf i).toNat)
 case atStart => exact ⟨0, by omega, rfl, by simp [Hid], Below.refl _ _, ha, hb⟩
 case round =>
  obtain ⟨k, hk, rfl, HT, hbel, HA, HB⟩ := hrel
  by_cases hlt : k < la.length
  ·obtain ⟨b1, o1, x, rfl, hb1, hx, hd, hcell⟩ := HA.out.at_ hlt
   obtain ⟨b2, o2, y, rfl, hb2, hy, hd', hcell'⟩ := HB.out.at_ (k := k) (by omega)
   have HS := Lib.hid (take_eq_succ HT.out hd hd')
   clear hd hd' ha hb
   have hlt' : k < lb.length := by omega
   by_cases hxy : x = y
   ·subst hxy
    have hq2 : ((x : Int) != (x : Int)) = false := by simp
    go_wp2
    go_quiet (fail)
    go_wp2
    go_roundw
    case rel => exact ⟨k + 1, by omega, by go_num, HS.out.2 (by simp), below_drewN hbel _, HA.out, HB.out⟩
    case measure => simp [intOf]; omega
   ·have hq2 : ((x : Int) != (y : Int)) = true := by rw [bne_iff_ne]; omega
    go_wp2
    go_quiet (fail)
    go_wp2
    go_ret
    have hne : la ≠ lb := take_ne (fun e => hxy (HS.out.1 e))
    exact ⟨by simp [hne], below_drewN hbel _⟩
  ·go_wp2
   go_ret
   have h0 : k = la.length := by omega
   have h1 : la = lb := by
    have := HT.out
    rw [List.take_of_length_le (by omega), List.take_of_length_le (by omega)] at this
    exact this
   exact ⟨by simp [h1], hbel⟩
theorem same_any (A A' : Option Addr) (la lb : List Nat) (c c' B B' : Nat) (w : World) (ha : Bts w B A la) (hb : Bts w B' A' lb) (hlen : la.length ≤ maxLen) (hlen' : lb.length ≤ maxLen) :
  Calls Tryz.prog 40 #[.slice A la.length c, .slice A' lb.length c'] w (IsBool (decide (la = lb)) w) := by
 by_cases h : la.length = lb.length
 ·exact same_eq A A' la lb c c' B B' w ha hb hlen h
 ·have hne : la ≠ lb := fun e => h (by rw [e])
  have := same_ne A A' la lb c c' w hlen hlen' h
  simpa [hne] using this
end Go.Proofs.YtiafeniflkikeaaGreat
namespace Go.Proofs.YtiafeniflkikeaaGreat
open Go.RowKit
theorem same_bv (v v' : Value) (la lb : List Nat) (B B' : Nat) (w : World) (h : Bv w B v la) (h' : Bv w B' v' lb) :
  Calls Tryz.prog 40 #[v, v'] w (IsBool (decide (la = lb)) w) := by
 obtain ⟨A, c, rfl, h1, h2, h3, h4⟩ := h
 obtain ⟨A', c', rfl, h1', h2', h3', h4'⟩ := h'
 exact same_any A A' la lb c c' B B' w h4 h4' (by omega) (by omega)
end Go.Proofs.YtiafeniflkikeaaGreat
