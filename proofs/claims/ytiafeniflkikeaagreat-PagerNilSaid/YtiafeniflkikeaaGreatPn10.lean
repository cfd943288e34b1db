/- Parts of the proof. -/
import Derived.Test.YtiafeniflkikeaaGreatPn09
import Derived.Test.YtiafeniflkikeaaGreatPn03
import Derived.Test.YtiafeniflkikeaaGreatPn08
import Derived.Test.YtiafeniflkikeaaGreatPn04
import Derived.Test.YtiafeniflkikeaaGreatPn01
import Derived.Test.YtiafeniflkikeaaGreatPn07
import Derived.Test.YtiafeniflkikeaaGreatPn06
import Derived.SizedLaws
import Derived.Test.YtiafeniflkikeaaGreatProg
import Derived.WalkKit
namespace Go.Proofs.YtiafeniflkikeaaGreat
open Go.RowKit
set_option linter.unusedVariables false
def rtC (r : Rt.Root) : Array Value := #[.int .u64 (r.seq : Nat), .int .i64 r.page, .int .i64 r.pages, .int .u64 (r.lsn : Nat), .int .u64 (r.next : Nat), .int .i64 r.shard, .int .i64 r.tail]
structure Rt.Fit (r : Rt.Root) : Prop where
 seq : r.seq < 18446744073709551616
 page : I64 r.page
 pages : I64 r.pages
 lsn : r.lsn < 18446744073709551616
 next : r.next < 18446744073709551616
 shard : I64 r.shard
 tail : I64 r.tail
theorem Rt.fit_zero : Rt.Fit Rt.zero := by constructor <;> simp [Rt.zero, I64]
theorem rtC_size (r : Rt.Root) : (rtC r).size = 7 := rfl
theorem rtC_one (r : Rt.Root) : (rtC r).all (·.oneCell') = true := by simp [rtC, Value.oneCell']
theorem rt_size : (Tryz.prog.info? 34).map (·.size) = some 7 := by kernel_rfl
def none7 : Array Value := rtC Rt.zero
theorem rt_zero : (Tryz.prog.info? 34).map (fun i => (i.zero, i.size)) = some (some (.agg none7), 7) := by kernel_rfl
theorem rt_built0 : Tryz.prog.built 34 [] = some none7 := by kernel_rfl
theorem rt_built (r : Rt.Root) :
  Tryz.prog.built 34 [(0, .int .u64 (r.seq : Nat)), (1, .int .i64 r.page), (2, .int .i64 r.pages), (3, .int .u64 (r.lsn : Nat)), (4, .int .u64 (r.next : Nat)), (5, .int .i64 r.shard), (6, .int .i64 r.tail)] = some (rtC r) := by kernel_rfl
def IsRtE (r : Rt.Root × Nat) (w : World) (e : Ending) (w' : World) : Prop :=
 e = .returned (.tuple #[.agg (rtC r.1), .int .i64 (r.2 : Nat)]) ∧ Rt.Fit r.1 ∧ Below w.heap.size w w'
theorem results_rt {fn : Func} {p u1 : Tmp} (h : fn.results = #[.cell p 34, .tmp u1]) (tmps : Array Value) (w : World) (g : Nat) (c : Array Value) (x : Value) (t : TypeId)
  (hp : tmps.getD p undef = .pointer (some ⟨g, 0, none⟩)) (hx : tmps.getD u1 undef = x) (hc : c.size = 7) (hg : w.heap[g]? = some (.cells c t (0, 0))) :
  (results fn tmps).run Tryz.prog w = .ok (.tuple #[.agg c, x]) w := by
 have hp' : tmps[p]?.getD undef = .pointer (some ⟨g, 0, none⟩) := by simpa using hp
 have hx' : tmps[u1]?.getD undef = x := by simpa using hx
 simp [results, h, hp', hx', asAddr, run_loadVar_row w g t _ _ (0, 0) _ hg Tryz.underlying34 rfl (by rw [hc]; exact rt_size)]
theorem IsRtE.ret {fn : Func} {p u1 : Tmp} {w w' : World} {a : Act} {g e : Nat} {r : Rt.Root × Nat} {y : Rt.Root} {x : Int} (hf : fn.results = #[.cell p 34, .tmp u1]) (ha : a.defers = [])
  (hp : a.tmps.getD p undef = .pointer (some ⟨g, 0, none⟩)) (hx : a.tmps.getD u1 undef = .int .i64 x) (hg : Rw w' g 34 (rtC y)) (hr : r = (y, e)) (he : x = (e : Nat)) (hy : Rt.Fit y) (hb : Below w.heap.size w w') :
  bodyPost Tryz.prog fn (IsRtE r w) Exit.ret a w' := by
 subst hr he
 exact bodyPost_ret (results_rt hf _ _ g _ _ _ hp hx (rtC_size y) hg) ha ⟨rfl, hy, hb⟩
end Go.Proofs.YtiafeniflkikeaaGreat
namespace Go.Proofs.YtiafeniflkikeaaGreat
open Go.ChangeShapes Go.WideShapes Go.ChangeAt Go.RowKit
set_option linter.unusedVariables false
theorem one_cell7 {L : List Value} {o : Nat} {x : Value} (h : (L.drop o).take 1 = [x]) : L[o]? = some x := by
 have h4 := congrArg (fun l => l[0]?) h
 simpa using h4
set_option maxRecDepth 100000 in
theorem rt_in {H : Type} {enc : TypeId × Value → H} {w : World} {b : Nat} {held : Bool} {v : Value} {d : DataW H} {p : List MemPlace}
  (hok : Value.okWide Tryz.prog w .any b 34 v) (h : DataW.Trod enc Tryz.prog w 0 (fun _ => true) held 34 v d p) :
  ∃ r : Rt.Root, v = .agg (rtC r) ∧ Rt.Fit r := by
 obtain ⟨cs, rfl, hsz⟩ := okWide_struct Tryz.underlying34 hok
 have hsz7 : cs.size = 7 := hsz.trans (by kernel_rfl)
 obtain ⟨fuel, hf⟩ := h
 obtain ⟨xs, m, _, hxe, hl, hlen, hx⟩ := DataW.trod_struct Tryz.underlying34 hf
 match xs, hlen, hxe with
 | [y0, y1, y2, y3, y4, y5, y6], _, hxe =>
  have cw : Tryz.prog.cellsOf 32 = 1 := by kernel_rfl
  have ci : Tryz.prog.cellsOf 3 = 1 := by kernel_rfl
  have f0 : DataW.trod enc Tryz.prog w 0 (fun _ => true) held m 32 ((cs.toList.drop 0).take (Tryz.prog.cellsOf 32)) = some y0 := hx 0 _ rfl
  have f1 : DataW.trod enc Tryz.prog w 0 (fun _ => true) held m 3 ((cs.toList.drop 1).take (Tryz.prog.cellsOf 3)) = some y1 := hx 1 _ rfl
  have f2 : DataW.trod enc Tryz.prog w 0 (fun _ => true) held m 3 ((cs.toList.drop 2).take (Tryz.prog.cellsOf 3)) = some y2 := hx 2 _ rfl
  have f3 : DataW.trod enc Tryz.prog w 0 (fun _ => true) held m 32 ((cs.toList.drop 3).take (Tryz.prog.cellsOf 32)) = some y3 := hx 3 _ rfl
  have f4 : DataW.trod enc Tryz.prog w 0 (fun _ => true) held m 32 ((cs.toList.drop 4).take (Tryz.prog.cellsOf 32)) = some y4 := hx 4 _ rfl
  have f5 : DataW.trod enc Tryz.prog w 0 (fun _ => true) held m 3 ((cs.toList.drop 5).take (Tryz.prog.cellsOf 3)) = some y5 := hx 5 _ rfl
  have f6 : DataW.trod enc Tryz.prog w 0 (fun _ => true) held m 3 ((cs.toList.drop 6).take (Tryz.prog.cellsOf 3)) = some y6 := hx 6 _ rfl
  rw [cw] at f0
  obtain ⟨z0, g0, _, b0⟩ := DataW.trod_int Tryz.underlying32 f0
  have hz0 := bounds_u64 b0
  have e0 := one_cell7 g0
  rw [ci] at f1
  obtain ⟨z1, g1, _, b1⟩ := DataW.trod_int Tryz.underlying3 f1
  have hz1 := bounds_i64 b1
  have e1 := one_cell7 g1
  rw [ci] at f2
  obtain ⟨z2, g2, _, b2⟩ := DataW.trod_int Tryz.underlying3 f2
  have hz2 := bounds_i64 b2
  have e2 := one_cell7 g2
  rw [cw] at f3
  obtain ⟨z3, g3, _, b3⟩ := DataW.trod_int Tryz.underlying32 f3
  have hz3 := bounds_u64 b3
  have e3 := one_cell7 g3
  rw [cw] at f4
  obtain ⟨z4, g4, _, b4⟩ := DataW.trod_int Tryz.underlying32 f4
  have hz4 := bounds_u64 b4
  have e4 := one_cell7 g4
  rw [ci] at f5
  obtain ⟨z5, g5, _, b5⟩ := DataW.trod_int Tryz.underlying3 f5
  have hz5 := bounds_i64 b5
  have e5 := one_cell7 g5
  rw [ci] at f6
  obtain ⟨z6, g6, _, b6⟩ := DataW.trod_int Tryz.underlying3 f6
  have hz6 := bounds_i64 b6
  have e6 := one_cell7 g6
  refine ⟨⟨z0.toNat, z1, z2, z3.toNat, z4.toNat, z5, z6⟩, ?_, ?_⟩
  ·congr 1
   apply Array.ext_getElem?
   intro i
   by_cases h7 : i < 7
   ·have hi : i = 0 ∨ i = 1 ∨ i = 2 ∨ i = 3 ∨ i = 4 ∨ i = 5 ∨ i = 6 := by omega
    rcases hi with rfl | rfl | rfl | rfl | rfl | rfl | rfl
    ·rw [← Array.getElem?_toList, e0]
     show some (Value.int .u64 z0) = some (Value.int .u64 ((z0.toNat : Nat) : Int))
     rw [show ((z0.toNat : Nat) : Int) = z0 by omega]
    ·rw [← Array.getElem?_toList, e1]
     rfl
    ·rw [← Array.getElem?_toList, e2]
     rfl
    ·rw [← Array.getElem?_toList, e3]
     show some (Value.int .u64 z3) = some (Value.int .u64 ((z3.toNat : Nat) : Int))
     rw [show ((z3.toNat : Nat) : Int) = z3 by omega]
    ·rw [← Array.getElem?_toList, e4]
     show some (Value.int .u64 z4) = some (Value.int .u64 ((z4.toNat : Nat) : Int))
     rw [show ((z4.toNat : Nat) : Int) = z4 by omega]
    ·rw [← Array.getElem?_toList, e5]
     rfl
    ·rw [← Array.getElem?_toList, e6]
     rfl
   ·rw [Array.getElem?_eq_none (by omega), Array.getElem?_eq_none (by rw [rtC_size]; omega)]
  ·constructor <;> (try unfold I64) <;> simp only <;> omega
end Go.Proofs.YtiafeniflkikeaaGreat
namespace Go.Proofs.YtiafeniflkikeaaGreat
section
variable {P : Program} {ops : Array Oper} {rest : List Oper} {d : Option Tmp} {ty : TypeId} {pos : String} {aft : Array Edge} {a : Act} {w : World} {Q : Exit → Act → World → Prop}
theorem gate_load (t : TypeId) {x : Operand} (h : wpList P ops Q ({ dst := d, op := .load t x, type := ty, pos := pos, after := aft, guard := none } :: rest) a w) : wpList P ops Q ({ dst := d, op := .load t x, type := ty, pos := pos, after := aft, guard := none } :: rest) a w := h
theorem gate_loadG (t : TypeId) {x : Operand} {g : Nat × Bool} (h : wpList P ops Q ({ dst := d, op := .load t x, type := ty, pos := pos, after := aft, guard := some g } :: rest) a w) : wpList P ops Q ({ dst := d, op := .load t x, type := ty, pos := pos, after := aft, guard := some g } :: rest) a w := h
theorem gate_store (t : TypeId) {x y : Operand} (h : wpList P ops Q ({ dst := d, op := .store t x y, type := ty, pos := pos, after := aft, guard := none } :: rest) a w) : wpList P ops Q ({ dst := d, op := .store t x y, type := ty, pos := pos, after := aft, guard := none } :: rest) a w := h
theorem gate_build (t : TypeId) {x : Array (Nat × Operand)} (h : wpList P ops Q ({ dst := d, op := .build t x, type := ty, pos := pos, after := aft, guard := none } :: rest) a w) : wpList P ops Q ({ dst := d, op := .build t x, type := ty, pos := pos, after := aft, guard := none } :: rest) a w := h
end
end Go.Proofs.YtiafeniflkikeaaGreat
namespace Go.Proofs.YtiafeniflkikeaaGreat
open Go.RowKit
set_option linter.unusedVariables false
def IsGot (r : Nat × Nat × Nat) (w : World) (e : Ending) (w' : World) : Prop :=
 e = .returned (.tuple #[.int .u64 r.1, .int .i64 r.2.1, .int .i64 r.2.2]) ∧ Below w.heap.size w w'
theorem IsGot.of {w w' : World} {r : Nat × Nat × Nat} {n k e : Nat} (h : r = (n, k, e)) (hb : Below w.heap.size w w') : IsGot r w (.returned (.tuple #[.int .u64 (n : Nat), .int .i64 (k : Nat), .int .i64 (e : Nat)])) w' := by
 subst h; exact ⟨rfl, hb⟩
set_option maxHeartbeats 400000 in
theorem get_arg (A : Option Addr) (l : List Nat) (cap : Nat) (a : Int) (w : World) (hlen : l.length ≤ maxLen) (h : a < 0 ∨ (l.length : Int) < a) :
  Calls Tryz.prog 131 #[.slice A l.length cap, .int .i64 a] w (IsGot (Mt.get l a) w) := by
 have HR := Lib.hid (Mt.get_arg h)
 unfold maxLen at hlen
 by_cases h1 : a < 0
 ·clear h
  go_enter Tryz.func131, Tryz.ntmps131
  go_wp2
  go_step3
  go_wp2
  rw [Exit.noGoto_ret]
  go_ret3
  exact IsGot.of HR.out (Below.refl _ _)
 ·have h2 : (l.length : Int) < a := by omega
  clear h
  go_enter Tryz.func131, Tryz.ntmps131
  go_wp2
  go_step3
  go_wp2
  rw [Exit.noGoto_ret]
  go_ret3
  exact IsGot.of HR.out (Below.refl _ _)
set_option maxHeartbeats 400000 in
theorem get_end (A : Option Addr) (l : List Nat) (cap : Nat) (w : World) (hlen : l.length ≤ cap) (hcap : cap ≤ maxLen) :
  Calls Tryz.prog 131 #[.slice A l.length cap, .int .i64 l.length] w (IsGot (Mt.get l l.length) w) := by
 have HR := Lib.hid (Mt.get_err (l := l) (a := l.length) (e := 4) (by omega) (by simp [Mt.rd_nil]) (by decide))
 unfold maxLen at hcap
 by_cases hc : cap = l.length
 ·subst hc
  go_enter Tryz.func131, Tryz.ntmps131
  go_wp2
  go_step3
  go_wp2
  go_step3
  go_wp2
  refine wp_loop_rounds 1 ?_
  rw [rounds_succ]
  go_wp2
  rw [Exit.noGoto_ret]
  go_ret3
  exact IsGot.of HR.out (Below.refl _ _)
 ·go_enter Tryz.func131, Tryz.ntmps131
  go_wp2
  go_step3
  go_wp2
  go_step3
  go_wp2
  refine wp_loop_rounds 1 ?_
  rw [rounds_succ]
  go_wp2
  rw [Exit.noGoto_ret]
  go_ret3
  exact IsGot.of HR.out (Below.refl _ _)
set_option maxHeartbeats 2000000 in
set_option maxRecDepth 100000 in
theorem get_some (l : List Nat) (cap b off B a : Nat) (w : World) (hlen : l.length ≤ cap) (hcap : cap ≤ maxLen) (ha : a < l.length) (hl : Bts w B (some ⟨b, off, none⟩) l) :
  Calls Tryz.prog 131 #[.slice (some ⟨b, off, none⟩) l.length cap, .int .i64 a] w (IsGot (Mt.get l a) w) := by
 have hle : a ≤ l.length := by omega
 unfold maxLen at hcap
 have hne : ¬ cap = a := by omega
 obtain ⟨_, _, e0, _, hcell⟩ := hl.2 (by omega)
 injection e0 with e0
 injection e0 with e1 e2
 subst e1 e2
 have hlt := hl.1
 have HC := Lib.hid hcell
 have HL := Lib.hid hlt
 clear hcell hlt hl
 go_enter Tryz.func131, Tryz.ntmps131
 go_wp2
 go_step3
 go_wp2
 go_step3
 go_wp2
 go_loop [4, 7, 22] (fun x z i => ∃ (k X : Nat), k ≤ 9 ∧ a + k ≤ l.length ∧ i = .int .i64 k ∧ z = .int .i64 0 ∧ x = .int .u64 X ∧ Hid (X < 128 ^ k) ∧ Hid (Mt.rd 0 0 (l.drop a) = Mt.rd k X (l.drop (a + k)))) (fun _ _ i => l.length - (intOf i).toNat)
 case atStart => exact ⟨0, 0, by omega, by omega, rfl, rfl, rfl, by simp [Hid], rfl⟩
 case round =>
  obtain ⟨k, X, hk9, hk, rfl, rfl, rfl, HX, HR⟩ := hrel
  by_cases hin : a + k < l.length
  ·have hd := List.drop_eq_getElem_cons hin
   have hcell := HC.out (a + k) _ (List.getElem?_eq_getElem hin)
   have hc := HL.out _ (List.getElem_mem hin)
   generalize hcc : l[a + k] = c at hd hcell hc
   have HD : Hid (Mt.rd 0 0 (l.drop a) = Mt.rd k X (c :: l.drop (a + k + 1))) := by unfold Hid; rw [HR.out, hd]
   rw [← Nat.add_assoc] at hcell
   have hkin : k < l.length - a := by omega
   clear hcc hd HR HC HL
   by_cases h1 : k = 9 ∧ 1 < c
   ·have HE := Lib.hid (HD.out.trans (Mt.rd_form (.inl h1)))
    obtain ⟨rfl, h1c⟩ := h1
    clear HD HX
    go_wp2
    go_ret3
    exact IsGot.of (Mt.get_err hle HE.out (by decide)) (Below.refl _ _)
   ·by_cases h2 : 0 < k ∧ c = 0
    ·have HE := Lib.hid (HD.out.trans (Mt.rd_form (.inr h2)))
     obtain ⟨h2k, rfl⟩ := h2
     clear HD HX
     by_cases h9 : k = 9
     ·subst h9
      go_wp2
      go_ret3
      exact IsGot.of (Mt.get_err hle HE.out (by decide)) (Below.refl _ _)
     ·go_wp2
      go_ret3
      exact IsGot.of (Mt.get_err hle HE.out (by decide)) (Below.refl _ _)
    ·by_cases h3 : c < 128
     ·have HE := Lib.hid (HD.out.trans (Mt.rd_last (by omega) h3))
      clear HD
      by_cases h9 : 8 < k
      ·have h1c : c < 2 := by omega
       have hc0 : 0 < c := by omega
       have HV := Lib.hid (or_step k X c hk9 HX.out hc (by omega))
       clear h1 h2
       go_wp2
       go_ret3
       rw [HV.out, Nat.mod_eq_of_lt h3]
       obtain rfl : k = 9 := by omega
       exact IsGot.of (Mt.get_ok hle HE.out) (Below.refl _ _)
      ·have h9' : k < 9 := by omega
       have HV := Lib.hid (or_step k X c hk9 HX.out hc (by omega))
       by_cases hk0 : k < 1
       ·clear h1 h2 h9
        go_wp2
        go_ret3
        rw [HV.out, Nat.mod_eq_of_lt h3]
        exact IsGot.of (Mt.get_ok hle HE.out) (Below.refl _ _)
       ·have hc0 : 0 < c := by omega
        have hk0' : 0 < k := by omega
        clear h1 h2 hk0 h9
        go_wp2
        go_ret3
        rw [HV.out, Nat.mod_eq_of_lt h3]
        exact IsGot.of (Mt.get_ok hle HE.out) (Below.refl _ _)
     ·have h9 : k < 9 := by omega
      have HE := Lib.hid (HD.out.trans (Mt.rd_on h1 (by omega)))
      have HV := Lib.hid (or_step k X c hk9 HX.out hc (by omega))
      have HX2 := Lib.hid (Mt.step_lt (c := c) HX.out)
      clear HD h1 h2 HX
      go_wp2
      all_goals
       refine ⟨⟨_, _, _, _, _, _, _, ?rel, rfl, rfl, rfl, rfl, rfl, rfl, rfl⟩, ?measure⟩
       case rel => exact ⟨k + 1, by omega, by omega, by go_num, rfl, X + c % 128 * 128 ^ k, by rw [HV.out], HX2.out, HE.out⟩
       case measure => simp [intOf]; omega
  ·have hk0 : a + k = l.length := by omega
   have HE : Hid (Mt.rd 0 0 (l.drop a) = (0, 0, 4)) := by unfold Hid; rw [HR.out, hk0]; simp [Mt.rd_nil]
   have hkk : l.length - a ≤ k := by omega
   clear HR HC HL HX hk0
   go_wp2
   go_ret3
   exact IsGot.of (Mt.get_err hle HE.out (by decide)) (Below.refl _ _)
theorem get_any (v : Value) (l : List Nat) (B : Nat) (a : Int) (w : World) (h : Bv w B v l) :
  Calls Tryz.prog 131 #[v, .int .i64 a] w (IsGot (Mt.get l a) w) := by
 obtain ⟨A, c, rfl, h1, h2, h3, h4⟩ := h
 by_cases ha : a < 0 ∨ (l.length : Int) < a
 ·exact get_arg A l c a w (by omega) ha
 ·obtain ⟨k, rfl⟩ := Int.eq_ofNat_of_zero_le (show 0 ≤ a by omega)
  by_cases hk : k = l.length
  ·subst hk
   exact get_end A l c w h1 h2
  ·have hlt : k < l.length := by omega
   obtain ⟨b, off, rfl, _⟩ := h4.2 (by omega)
   exact get_some l c b off B k w h1 h2 hlt h4
end Go.Proofs.YtiafeniflkikeaaGreat
