/- Parts of the proof. -/
import Derived.Shelf.SlIter.Nil
import Derived.Shelf.SortM.Plain
import Derived.Shelf.SortM.SortNone
import Derived.Test.YtiafeniflkikeaaGreatRows
import Derived.Test.YtiafeniflkikeaaGreatChecked
import Derived.Test.YtiafeniflkikeaaGreatPm12
import Derived.Test.YtiafeniflkikeaaGreatPm23
import Derived.Test.YtiafeniflkikeaaGreatPm15
import Derived.Shelf.SlMaps.Clone
import Derived.Test.YtiafeniflkikeaaGreatPm26
import Derived.Test.YtiafeniflkikeaaGreatPm24
namespace Go.Proofs.YtiafeniflkikeaaGreat
open Go.Shelf Go.Proofs
def keysM_ren : Go.Shelf.Ren := ⟨fun | 7 => 100 | 10 => 124 | n => n, fun | 23 => 68 | 26 => 9 | 3 => 3 | 28 => 150 | 0 => 0 | 27 => 149 | 33 => 135 | 4 => 4 | n => n, fun | n => n⟩
theorem keysM : Go.Proofs.SlLaysZ.n7 Tryz.prog keysM_ren := {
 mixed := by kernel_rfl
 f7 := ⟨Tryz.f100.name, by decide, Tryz.func100.trans (congrArg some (by kernel_rfl))⟩
 f10 := ⟨Tryz.f124.name, by decide, Tryz.func124.trans (congrArg some (by kernel_rfl))⟩
 t0 := Tryz.underlying0
 a0 := Tryz.isAgg0
 z0 := Tryz.sizeOf0
 v0 := Tryz.zeroValue0
 t4 := Tryz.underlying4
 a4 := Tryz.isAgg4
 z4 := Tryz.sizeOf4
 v4 := Tryz.zeroValue4
 t23 := Tryz.underlying68
 a23 := Tryz.isAgg68
 z23 := Tryz.sizeOf68
 v23 := Tryz.zeroValue68
 t26 := Tryz.underlying9
 a26 := Tryz.isAgg9
 z26 := Tryz.sizeOf9
 v26 := Tryz.zeroValue9
 t27 := Tryz.underlying149
 a27 := Tryz.isAgg149
 z27 := Tryz.sizeOf149
 v27 := Tryz.zeroValue149
 t28 := Tryz.underlying150
 a28 := Tryz.isAgg150
 z28 := Tryz.sizeOf150
 v28 := Tryz.zeroValue150
 t33 := Tryz.underlying135
 a33 := Tryz.isAgg135
 z33 := Tryz.sizeOf135
 v33 := Tryz.zeroValue135 }
def sortedS_ren : Go.Shelf.Ren := ⟨fun | 6 => 99 | 8 => 122 | 9 => 123 | 11 => 136 | 13 => 127 | 12 => 137 | 23 => 147 | 24 => 148 | 14 => 150 | 15 => 151 | 16 => 152 | 17 => 153 | 18 => 154 | 19 => 155 | 20 => 156 | 21 => 157 | 22 => 158 | 25 => 166 | 26 => 160 | 27 => 161 | 28 => 167 | 29 => 168 | 30 => 169 | 31 => 172 | n => n, fun | 26 => 9 | 28 => 150 | 24 => 123 | 0 => 0 | 3 => 3 | 37 => 54 | 48 => 185 | 50 => 32 | 4 => 4 | 40 => 192 | 39 => 191 | 45 => 136 | 5 => 5 | 9 => 9 | 51 => 206 | 55 => 209 | 57 => 214 | 58 => 215 | 33 => 135 | n => n, fun | n => n⟩
theorem sortedS : Go.Proofs.SlLaysZ.n6 Tryz.prog sortedS_ren := {
 mixed := by kernel_rfl
 f6 := ⟨Tryz.f99.name, by decide, Tryz.func99.trans (congrArg some (by kernel_rfl))⟩
 f8 := ⟨Tryz.f122.name, by decide, Tryz.func122.trans (congrArg some (by kernel_rfl))⟩
 f11 := ⟨Tryz.f136.name, by decide, Tryz.func136.trans (congrArg some (by kernel_rfl))⟩
 t0 := Tryz.underlying0
 a0 := Tryz.isAgg0
 z0 := Tryz.sizeOf0
 v0 := Tryz.zeroValue0
 t24 := Tryz.underlying123
 a24 := Tryz.isAgg123
 z24 := Tryz.sizeOf123
 v24 := Tryz.zeroValue123
 t26 := Tryz.underlying9
 a26 := Tryz.isAgg9
 z26 := Tryz.sizeOf9
 v26 := Tryz.zeroValue9
 t28 := Tryz.underlying150
 a28 := Tryz.isAgg150
 z28 := Tryz.sizeOf150
 v28 := Tryz.zeroValue150
 i26 := by kernel_rfl }
def sortS_ren : Go.Shelf.Ren := ⟨fun | 6 => 123 | 8 => 127 | 9 => 137 | 19 => 147 | 20 => 148 | 21 => 150 | 22 => 151 | 23 => 152 | 24 => 153 | 25 => 154 | 26 => 155 | 27 => 156 | 28 => 157 | 29 => 158 | 36 => 166 | 31 => 160 | 32 => 161 | 37 => 167 | 38 => 168 | 39 => 169 | 41 => 172 | n => n, fun | 27 => 123 | 29 => 9 | 3 => 3 | 32 => 54 | 26 => 123 | 0 => 0 | 44 => 185 | 46 => 32 | 4 => 4 | 36 => 192 | 35 => 191 | 41 => 136 | 5 => 5 | 9 => 9 | 53 => 206 | 57 => 209 | 63 => 214 | 64 => 215 | n => n, fun | n => n⟩
theorem sortS : Go.Proofs.SlLaysM.n6 Tryz.prog sortS_ren := {
 mixed := by kernel_rfl
 f6 := ⟨Tryz.f123.name, by decide, Tryz.func123.trans (congrArg some (by kernel_rfl))⟩
 f8 := Tryz.func127.trans (congrArg some (by kernel_rfl))
 f9 := ⟨Tryz.f137.name, by decide, Tryz.func137.trans (congrArg some (by kernel_rfl))⟩
 f19 := Tryz.func147.trans (congrArg some (by kernel_rfl))
 f20 := Tryz.func148.trans (congrArg some (by kernel_rfl))
 f21 := ⟨Tryz.f150.name, by decide, Tryz.func150.trans (congrArg some (by kernel_rfl))⟩
 f22 := ⟨Tryz.f151.name, by decide, Tryz.func151.trans (congrArg some (by kernel_rfl))⟩
 f23 := ⟨Tryz.f152.name, by decide, Tryz.func152.trans (congrArg some (by kernel_rfl))⟩
 f24 := ⟨Tryz.f153.name, by decide, Tryz.func153.trans (congrArg some (by kernel_rfl))⟩
 f25 := ⟨Tryz.f154.name, by decide, Tryz.func154.trans (congrArg some (by kernel_rfl))⟩
 f26 := ⟨Tryz.f155.name, by decide, Tryz.func155.trans (congrArg some (by kernel_rfl))⟩
 f27 := ⟨Tryz.f156.name, by decide, Tryz.func156.trans (congrArg some (by kernel_rfl))⟩
 f28 := ⟨Tryz.f157.name, by decide, Tryz.func157.trans (congrArg some (by kernel_rfl))⟩
 f29 := ⟨Tryz.f158.name, by decide, Tryz.func158.trans (congrArg some (by kernel_rfl))⟩
 f31 := Tryz.func160.trans (congrArg some (by kernel_rfl))
 f32 := Tryz.func161.trans (congrArg some (by kernel_rfl))
 f36 := ⟨Tryz.f166.name, by decide, Tryz.func166.trans (congrArg some (by kernel_rfl))⟩
 f37 := ⟨Tryz.f167.name, by decide, Tryz.func167.trans (congrArg some (by kernel_rfl))⟩
 f38 := ⟨Tryz.f168.name, by decide, Tryz.func168.trans (congrArg some (by kernel_rfl))⟩
 f39 := ⟨Tryz.f169.name, by decide, Tryz.func169.trans (congrArg some (by kernel_rfl))⟩
 f41 := ⟨Tryz.f172.name, by decide, Tryz.func172.trans (congrArg some (by kernel_rfl))⟩
 t0 := Tryz.underlying0
 a0 := Tryz.isAgg0
 z0 := Tryz.sizeOf0
 v0 := Tryz.zeroValue0
 t3 := Tryz.underlying3
 a3 := Tryz.isAgg3
 z3 := Tryz.sizeOf3
 v3 := Tryz.zeroValue3
 t4 := Tryz.underlying4
 a4 := Tryz.isAgg4
 z4 := Tryz.sizeOf4
 v4 := Tryz.zeroValue4
 t5 := Tryz.underlying5
 a5 := Tryz.isAgg5
 z5 := Tryz.sizeOf5
 v5 := Tryz.zeroValue5
 t9 := Tryz.underlying9
 a9 := Tryz.isAgg9
 z9 := Tryz.sizeOf9
 v9 := Tryz.zeroValue9
 t26 := Tryz.underlying123
 a26 := Tryz.isAgg123
 z26 := Tryz.sizeOf123
 v26 := Tryz.zeroValue123
 t27 := Tryz.underlying123
 a27 := Tryz.isAgg123
 z27 := Tryz.sizeOf123
 v27 := Tryz.zeroValue123
 t29 := Tryz.underlying9
 a29 := Tryz.isAgg9
 z29 := Tryz.sizeOf9
 v29 := Tryz.zeroValue9
 t32 := Tryz.underlying54
 a32 := Tryz.isAgg54
 z32 := Tryz.sizeOf54
 v32 := Tryz.zeroValue54
 t35 := Tryz.underlying191
 a35 := Tryz.isAgg191
 z35 := Tryz.sizeOf191
 v35 := Tryz.zeroValue191
 t36 := Tryz.underlying192
 a36 := Tryz.isAgg192
 z36 := Tryz.sizeOf192
 v36 := Tryz.zeroValue192
 t41 := Tryz.underlying136
 a41 := Tryz.isAgg136
 z41 := Tryz.sizeOf136
 v41 := Tryz.zeroValue136
 t44 := Tryz.underlying185
 a44 := Tryz.isAgg185
 z44 := Tryz.sizeOf185
 v44 := Tryz.zeroValue185
 t46 := Tryz.underlying32
 a46 := Tryz.isAgg32
 z46 := Tryz.sizeOf32
 v46 := Tryz.zeroValue32
 t53 := Tryz.underlying206
 a53 := Tryz.isAgg206
 z53 := Tryz.sizeOf206
 v53 := Tryz.zeroValue206
 t57 := Tryz.underlying209
 a57 := Tryz.isAgg209
 z57 := Tryz.sizeOf209
 v57 := Tryz.zeroValue209
 t63 := Tryz.underlying214
 a63 := Tryz.isAgg214
 z63 := Tryz.sizeOf214
 v63 := Tryz.zeroValue214
 t64 := Tryz.underlying215
 a64 := Tryz.isAgg215
 z64 := Tryz.sizeOf215
 v64 := Tryz.zeroValue215 }
end Go.Proofs.YtiafeniflkikeaaGreat
namespace Go.Proofs.YtiafeniflkikeaaGreat
open Go.RowKit Go.Maps Go.Sort Go.Shelf Go.Proofs
set_option linter.unusedVariables false
theorem sortsS (m : Nat) : AnyZ.SortsIn Tryz.prog sortedS_ren Fence.wide m :=
  ⟨fun blk off cap ss W hH hblk hsz => callsIn_wide.2 (AnyM.slices_Sort_string sortS blk off cap ss W hH hblk hsz),
   fun p cap W => callsIn_wide.2 (AnyM.slices_Sort_string_none sortS p cap W)⟩
theorem keys_dir (mb : Option Nat) (W : World) : CallsIn Fence.wide 5 Tryz.prog 100 #[.map mb] W fun e w' => e = .returned (.func (.func 124) #[] #[.pointer (some ⟨W.heap.size, 0, none⟩)]) ∧ w' = W.alloc (.cells #[.map mb] 68) :=
 AnyZ.keys_in keysM Fence.wide 5 trivial rfl mb W
set_option maxHeartbeats 1000000 in
theorem sorted_dir (b nn : Nat) (D0 : DataW Unit) (R : Value → Option (DataW Unit × List MemPlace)) (w : World) (hown : w.ownsMap Tryz.prog 9 R b nn D0) (hmax : Maps.size D0 ≤ maxLen) (hbytes : Maps.size D0 * 16 ≤ 140737488355328) :
  CallsIn Fence.wide 5 Tryz.prog 99 #[.func (.func 124) #[] #[.pointer (some ⟨w.heap.size, 0, none⟩)]] (w.alloc (.cells #[.map (some b)] 68)) fun e w' => ∃ (v : Value) (ss : List (List UInt8)), e = .returned v ∧ ss.Perm (strKeys D0) ∧
   w'.ownsRow (w.alloc (.cells #[.map (some b)] 68)).heap.size 9 1 v ss.length ((ss.mergeSort (fun x y => decide (x ≤ y))).map encStr) ∧ Below (w.alloc (.cells #[.map (some b)] 68)).heap.size (w.alloc (.cells #[.map (some b)] 68)) w' := by
 have hbl := hown.lt
 have hseq : SeqGives Fence.wide 2 Tryz.prog 124 #[.pointer (some ⟨w.heap.size, 0, none⟩)] encStr (fun ss => ss.Perm (strKeys D0)) (Maps.size D0) (w.alloc (.cells #[.map (some b)] 68)) :=
  AnyZ.keys_gives (ρ := keysM_ren) { keysM with } Fence.wide _ trivial rfl (by omega) w.heap.size b nn D0 _ (by simp) (by simp) (by
   obtain ⟨es, clock, hb, Ft, hs, hD⟩ := hown
   exact ⟨es, clock, (Below.heap_alloc _ _ b hbl).trans hb, Ft, hs, hD⟩)
 refine (AnyZ.sorted_in sortedS Fence.wide 5 trivial trivial trivial trivial rfl (by omega) (sortsS _) (enters_of Tryz.func123 (by kernel_rfl) rfl) 124 #[.pointer (some ⟨w.heap.size, 0, none⟩)] trivial (enters_of Tryz.func124 (by kernel_rfl) rfl) _ _ hmax hbytes _ hseq).mono ?_
 rintro e w' ⟨v, ss, h1, h2, h3, _, h4⟩
 exact ⟨v, ss, h1, h2, h3, h4⟩
theorem keys_sorted {d : Sf.Dir} (hd : Sf.OkDir d) {ss : List (List UInt8)} (h : ss.Perm (d.map fun e => e.1.data.toList)) : ss.mergeSort (fun x y => decide (x ≤ y)) = d.map fun e => e.1.data.toList := by
 have hr : (d.map fun e => e.1.data.toList).Pairwise (fun x y => x ≤ y) := by
  rw [List.pairwise_map]
  refine List.Pairwise.imp (fun {a b} hab => ?_) hd.rise
  rw [ByteArray.toList_eq, ByteArray.toList_eq] at hab
  exact List.le_of_lt hab
 refine List.Perm.eq_of_pairwise (le := fun x y => x ≤ y) (fun a b _ _ h1 h2 => List.le_antisymm h1 h2) ?_ hr ((List.mergeSort_perm ss _).trans h)
 have := List.pairwise_mergeSort (le := fun x y : List UInt8 => decide (x ≤ y)) (fun a b c h1 h2 => by
  simp only [decide_eq_true_eq] at h1 h2 ⊢
  exact List.le_trans h1 h2) (fun a b => by
  simp only [Bool.or_eq_true, decide_eq_true_eq]
  exact List.le_total a b) ss
 exact List.Pairwise.imp (fun {a b} h => by simpa using h) this
set_option maxHeartbeats 1000000 in
set_option maxRecDepth 100000 in
theorem prising_any (b n : Nat) (d : Sf.Dir) (w : World) (h : IsMp dM w b n (Sf.dirF d)) (hd : Sf.OkDir d) (hl : d.length ≤ 64) : Calls Tryz.prog 72 #[.map (some b)] w (IsQ1 sK (d.map (·.1)) w) := by
 obtain ⟨D, h1, h2⟩ := h
 have hp := Tells.perm (K := dM) dM_ok h1 h2 (Sf.dirL d) (by rw [Sf.dirL_keys]; exact hd.nodup) (fun e he => by
  obtain ⟨x, hx, rfl⟩ := List.mem_map.1 he
  exact Sf.name_max (hd.name x hx)) (fun x _ y => Sf.dirF_iff hd x y)
 obtain ⟨es, rfl, hp⟩ := hp
 have hsz : Maps.size (DataW.map es : DataW Unit) = d.length := by rw [Maps.size_eq, hp.length_eq, List.length_map, Sf.dirL, List.length_map]
 have hkeys : (strKeys (DataW.map es : DataW Unit)).Perm (d.map fun e => e.1.data.toList) := by
  have := hp.map fun p : Lit × DataW Unit => strOf p.1
  rw [List.map_map, Sf.dirL, List.map_map] at this
  exact this
 have CS := Lib.hid (sorted_dir b n (DataW.map es) dM.read w h1 (by rw [hsz]; simp only [maxLen]; omega) (by rw [hsz]; omega))
 have CK := Lib.hid (keys_dir (some b) w)
 have HK := Lib.hid hkeys
 have HD := Lib.hid hd
 clear h1 h2 hp hsz hkeys hd
 refine (callsIn_wide (n := 6)).1 ?_
 have hfK : Fence.wide.fn 100 := trivial
 have hfS : Fence.wide.fn 99 := trivial
 refine callsIn_of_wp Tryz.func72 rfl trivial ?_ rfl
 simp only [Tryz.ntmps72, List.size_toArray, List.length_cons, List.length_nil, Nat.reduceAdd, Nat.reduceSub, Array.replicate_succ, Array.replicate_zero, List.push_toArray, List.append_toArray, List.nil_append, List.cons_append]
 gi_wp2_with (first
  | (gi_at_call 100; refine CK.out.mono ?_; rintro e w1 ⟨rfl, rfl⟩)
  | (gi_at_call 99; refine CS.out.mono ?_; rintro e w2 ⟨v, ss, rfl, hS, hrow, hb⟩))
 go_ret
 have hm := keys_sorted HD.out (hS.trans HK.out)
 rw [hm] at hrow
 have hlen : ss.length = (d.map (·.1)).length := by rw [(hS.trans HK.out).length_eq, List.length_map, List.length_map]
 have hflat : (d.map fun e => e.1.data.toList).map encStr = sK.flat (d.map (·.1)) := by
  clear hrow hlen hm CS CK HK hS HD
  induction d with
  | nil => rfl
  | cons e d ih =>
   rw [List.map_cons, List.map_cons, List.map_cons, flat_cons, ih (by simp at hl ⊢; omega)]
   rfl
 rw [hflat, hlen] at hrow
 have hb2 : Below w.heap.size w w2 := ((Below.refl _ w).alloc (Nat.le_refl _) _).trans (hb.mono (by simp))
 have hok : ∀ x ∈ d.map (·.1), sK.ok x := fun x hx => by
  obtain ⟨e, he, rfl⟩ := List.mem_map.1 hx
  exact Sf.name_max (HD.out.name e he)
 have hO := (OwnQ.of_row (K := sK) hok hrow).mono_ (base' := w.heap.size) (by simp)
 obtain ⟨A, c, e, _⟩ := hO.form_
 subst e
 exact ⟨A, c, rfl, hO, hb2⟩
end Go.Proofs.YtiafeniflkikeaaGreat
namespace Go.Proofs.YtiafeniflkikeaaGreat
open Go.RowKit
set_option linter.unusedVariables false
section
variable {w : World} {fp : Fp} {s : Nat} {t : Sf.St} {b : Nat} {who : Who} {bf bs bn : Nat} {vr : Sl} {ff : Int → Option RawX} {rn : List RawN}
set_option maxHeartbeats 1000000 in
set_option maxRecDepth 100000 in
theorem pmclone_any (b n : Nat) (f : ByteArray → Option Int) (w : World) (h : IsMp dM w b n f) : Calls Tryz.prog 69 #[.map (some b)] w (fun e w' => e = .returned (.map (some w.heap.size)) ∧ IsMp dM w' w.heap.size n f ∧ Below w.heap.size w w' ∧ w'.heap.size = w.heap.size + 1) := by
 obtain ⟨D, ⟨es, clock, hb, F, hs, hD⟩, hT⟩ := h
 have hq := fun w => eql_map_nil w 68 _ _ (some b) Tryz.underlying68
 go_enter Tryz.func69, Tryz.ntmps69
 go_wp2
 rw [run_callFunc_extern Tryz.func98 (by kernel_rfl) (by kernel_rfl) (by kernel_rfl) (e := Extern.MapsClone.clone) (by kernel_rfl), run_maps_clone_sl w 68 hb]
 simp only [Result.andThen]
 rw [Oper.upon_value]
 go_wp2
 rw [run_typeAssert_map_sl _ 68 20 _ _ _ Tryz.underlying68]
 simp only [Result.andThen]
 rw [Oper.upon_value]
 go_wp2
 go_ret
 exact ⟨rfl, ⟨D, ⟨es, clock, (MapKept.heap_alloc w _).1, F, hs, hD⟩, hT⟩, (Below.refl _ w).alloc (Nat.le_refl _) _, by simp⟩
end
end Go.Proofs.YtiafeniflkikeaaGreat
namespace Go.Proofs.YtiafeniflkikeaaGreat
open Go.RowKit
set_option linter.unusedVariables false
namespace Sf
def has (d : Dir) (i : Int) : Bool := d.any fun e => decide ((e.2 : Int) = i)
theorem has_iff {d : Dir} {i : Int} : has d i = true ↔ ∃ e ∈ d, (e.2 : Int) = i := by
 unfold has
 rw [List.any_eq_true]
 simp
theorem has_perm {d e : Dir} (h : d.Perm e) (i : Int) : has d i = has e i := by
 rw [Bool.eq_iff_iff, has_iff, has_iff]
 exact ⟨fun ⟨x, hx, hi⟩ => ⟨x, h.mem_iff.1 hx, hi⟩, fun ⟨x, hx, hi⟩ => ⟨x, h.mem_iff.2 hx, hi⟩⟩
end Sf
def restr (ff : Int → Option RawX) (d : Sf.Dir) (i : Int) : Option RawX := if Sf.has d i then ff i else none
theorem restr_cons {ff : Int → Option RawX} {d : Sf.Dir} {s : ByteArray} {n : Nat} {x : RawX} (h : ff (n : Int) = some x) : restr ff ((s, n) :: d) = fun i => if i = (n : Int) then some x else restr ff d i := by
 funext i
 unfold restr Sf.has
 rw [List.any_cons]
 by_cases e : i = (n : Int)
 ·subst e
  simp [h]
 ·have : decide ((n : Int) = i) = false := by simpa using fun e2 => e e2.symm
  rw [if_neg e]
  simp only [this, Bool.false_or]
theorem restr_perm {ff : Int → Option RawX} {d e : Sf.Dir} (h : d.Perm e) : restr ff d = restr ff e := by
 funext i
 unfold restr
 rw [Sf.has_perm h]
theorem restr_nil (ff : Int → Option RawX) : restr ff [] = fun _ => none := by
 funext i
 simp [restr, Sf.has]
theorem makeMap_hint {t k e : TypeId} (ht : Tryz.prog.underlying t = some (.map k e)) (q : IntKind) (n : Int) (w : World) : (Instr.makeMap t (some (.int q n))).run Tryz.prog w = .ok (.map (some w.heap.size)) (w.alloc (.map #[] 0)) := by
 simp [Instr.makeMap, run_underlying ht, asInt, asIntOf, Result.andThen]
section
variable {w w' : World} {fp : Fp} {s : Nat} {t : Sf.St} {b : Nat} {who who' : Who} {bf bs bn : Nat} {vr : Sl} {ff : Int → Option RawX} {rn : List RawN} {F : Nat → Prop}
theorem PBody.sync_dir (h : PBody w who 0 t bf bs bn vr ff rn) {g q : Nat} (hm : More who who') (hT : Turned F w w') (hF : ∀ k, F k → who k = none ∨ who k = some .head)
  (hmap : IsMp fM w' g (64 + t.acts + 0) (restr ff t.seen)) (hs : IsMp dM w' q (64 + t.acts + 0) (Sf.dirF t.seen)) (hg : who' g = some .files) (hq : who' q = some .sure) :
  PBody w' who' 0 { t with sure := t.seen, row := [] } g q bn ⟨none, 0, 0⟩ (restr ff t.seen) [] := by
 have hB := h.turned hT hF
 refine ⟨hmap, hB.names, hs, OwnL.nil_ _ _ _, rfl, rfl, fun _ => rfl, fun i x hx => ?_, fun n hn => ?_, hg, hm _ _ h.namesW, hq, Bears.nil_ _ _⟩
 ·unfold restr at hx
  split at hx
  ·obtain ⟨n, f, h1, h2, h3⟩ := hB.file i x hx
   exact ⟨n, f, h1, h2, h3.more hm⟩
  ·cases hx
 ·obtain ⟨d, hd, e, he, rfl⟩ := hn
  have hin : e ∈ t.seen := by
   rcases hd with hd | hd | hd
   ·rw [hd] at he; exact he
   ·rw [hd] at he; exact he
   ·cases hd
  unfold restr
  rw [if_pos (Sf.has_iff.2 ⟨e, hin, rfl⟩)]
  exact h.there _ ⟨t.seen, .inr (.inl rfl), e, hin, rfl⟩
theorem GoodS.sync_dir (h : GoodS 0 t) : GoodS 0 { t with sure := t.seen, row := [] } :=
 ⟨h.room, h.files, Nat.zero_le _, h.acts, h.fuse, h.seen, h.seen, (fun d hd => by cases hd), (fun d hd => by
  have hl := h.lens t.seen (.inr (.inl rfl))
  rcases hd with hd | hd | hd
  ·rw [hd]; exact hl
  ·rw [hd]; exact hl
  ·cases hd), h.nums, h.frow⟩
set_option maxHeartbeats 4000000 in
set_option maxRecDepth 100000 in
theorem psyncDir_any (h : PDisk w fp t b) (hf : Sf.Few t) : Calls Tryz.prog 54 #[.pointer (some ⟨b, 0, none⟩)] w (IsDeed PDisk fp b (Sf.syncDir t) w) := by
 have HD := Lib.hid h
 obtain ⟨who, bf, bs, bn, vr, ff, rn, h⟩ := h
 have CR := Lib.hid (prefusal_disk h)
 have CA := Lib.hid (pact_disk h.mono hf)
 have HH := Lib.hid h
 cases hd : t.dead with
 | true =>
  have HE : Hid (Sf.syncDir t = (13, t)) := if_pos hd
  rw [hd] at CR
  clear h hf hd CA
  go_enter Tryz.func54, Tryz.ntmps54
  go_wp2_with fail
  refine CR.out.mono ?_
  rintro e1 w1 ⟨rfl, rfl⟩
  clear CR
  go_wp2
  go_ret
  rw [HE.out]
  exact ⟨rfl, fp, HD.out, Fp.Next.refl _ _, Turned.refl _ _⟩
 | false =>
  have HE0 : Hid (Sf.syncDir t = if (Sf.blown t).1 ≠ 0 then Sf.blown t else (0, { (Sf.blown t).2 with sure := t.seen, row := [] })) := if_neg (by rw [hd]; simp)
  have hse := (pblown_same t).2.2.1
  rw [hd] at CR
  obtain ⟨er, u, hbl⟩ : ∃ er u, Sf.blown t = (er, u) := ⟨_, _, rfl⟩
  rw [hbl] at CA HE0 hse
  simp only at CA HE0 hse
  rw [← hse] at HE0
  clear hbl hse hd h hf
  by_cases he : er = 0
  ·subst he
   have HE := Lib.hid (HE0.out.trans (if_neg (by simp)))
   clear HE0
   have hmk := fun q n w => makeMap_hint Tryz.underlying66 q n w
   go_enter Tryz.func54, Tryz.ntmps54
   go_wp2_with fail
   refine CR.out.mono ?_
   rintro e1 w1 ⟨rfl, rfl⟩
   clear CR
   go_wp2_with fail
   refine CA.out.mono ?_
   rintro e1 w1 ⟨rfl, h1, hT1⟩
   clear CA
   have HP1 := Lib.hid h1
   have HT1 := Lib.hid hT1
   have c5 : w1.cell? ⟨b, 5, none⟩ = some (.map (some bn)) := h1.cell rfl
   have hb1 : b < w1.heap.size := h1.lt b (by rw [h1.mine]; rfl)
   have CM := Lib.hid (pmclone_any bn _ _ w1 h1.body.names)
   clear h1 hT1
   go_wp2_with fail
   refine CM.out.mono ?_
   rintro e2 w2 ⟨rfl, hm2, hb2, hs2⟩
   have HM2 := Lib.hid hm2
   have HB2 := Lib.hid hb2
   have HS2 := Lib.hid hs2
   have HP2 := Lib.hid (HP1.out.below hb2)
   clear CM hm2 hb2 hs2 c5
   -- the stores
   have d3 : w2.cell? ⟨b, 3, none⟩ = some (.map (some bs)) := HP2.out.cell rfl
   have z3 : w2.frozen? ⟨b, 3, none⟩ = false := frozen_of_row w2 b 3 _ _ HP2.out.head
   have hh3 := head_setP HP2.out.head 3 (.map (some w1.heap.size)) (C' := headP u bf w1.heap.size bn vr) rfl
   have hT3 : Turned (fun k => k = b) w2 (w2.setCell ⟨b, 3, none⟩ (.map (some w1.heap.size))) := Turned.setCell (F := fun k => k = b) (Turned.refl (fun k => k = b) w2) (p := ⟨b, 3, none⟩) (fun _ => rfl) _
   obtain ⟨w3, hw3⟩ : ∃ w3, w2.setCell ⟨b, 3, none⟩ (.map (some w1.heap.size)) = w3 := ⟨_, rfl⟩
   rw [hw3] at hh3 hT3
   have d4 : w3.cell? ⟨b, 4, none⟩ = some (slV vr) := head_cellP hh3 rfl
   have z4 : w3.frozen? ⟨b, 4, none⟩ = false := frozen_of_row w3 b 4 _ _ hh3
   have hh4 := head_setP hh3 4 (.slice none 0 0) (C' := headP u bf w1.heap.size bn ⟨none, 0, 0⟩) rfl
   have hT4 : Turned (fun k => k = b) w2 (w3.setCell ⟨b, 4, none⟩ (.slice none 0 0)) := Turned.setCell (F := fun k => k = b) hT3 (p := ⟨b, 4, none⟩) (fun _ => rfl) _
   obtain ⟨w4, hw4⟩ : ∃ w4, w3.setCell ⟨b, 4, none⟩ (.slice none 0 0) = w4 := ⟨_, rfl⟩
   rw [hw4] at hh4 hT4
   have HH4 := Lib.hid hh4
   have HT4 := Lib.hid hT4
   obtain ⟨vA, vn, vc⟩ := vr
   simp only [slV] at d4
   have e5 : w4.cell? ⟨b, 5, none⟩ = some (.map (some bn)) := head_cellP hh4 rfl
   have hlen4 : IsMp dM w4 bn (64 + u.acts + 0) (Sf.dirF u.seen) := HP2.out.body.names.turned_ hT4 (fun e => by have h1 := HP2.out.body.namesW; rw [e, HP2.out.mine] at h1; cases h1)
   have hl4 := dir_len hlen4 HP2.out.good.seen 3
   have HL4 := Lib.hid hlen4
   clear hh3 hT3 hh4 hT4 hlen4
   -- the new map
   obtain ⟨w5, hw5⟩ : ∃ w5, w4.alloc (.map #[] 0) = w5 := ⟨_, rfl⟩
   have hM5 : IsMp fM w5 w4.heap.size 0 (fun _ => none) := by rw [← hw5]; exact IsMp.made fM w4
   have hT5 : Turned (fun _ => False) w4 w5 := by rw [← hw5]; exact (Turned.refl _ _).alloc _
   have hs5 : w5.heap.size = w4.heap.size + 1 := by rw [← hw5]; simp
   have hN5 := HL4.out.turned_ hT5 (fun h => h)
   have HHS : Hid (IsHead w5 b (headP u bf w1.heap.size bn ⟨none, 0, 0⟩)) := (hT5.block b (by have := HT4.out.size; have := HB2.out.size; omega) (fun h => h)).trans HH4.out
   have g5 : w5.cell? ⟨b, 5, none⟩ = some (.map (some bn)) := head_cellP HHS.out rfl
   have HM5 := Lib.hid hM5
   have HT5 := Lib.hid hT5
   have HN5 := Lib.hid hN5
   have HS5 := Lib.hid hs5
   obtain ⟨g, hg⟩ : ∃ g, w4.heap.size = g := ⟨_, rfl⟩
   rw [hg] at HM5 HS5
   have HG : Hid (w4.heap.size = g) := hg
   have HBF : Hid (IsMp fM w5 bf (64 + u.acts + 0) ff) := (HP2.out.body.files.turned_ HT4.out (fun e => by have h1 := HP2.out.body.filesW; rw [e, HP2.out.mine] at h1; cases h1)).turned_ hT5 (fun h => h)
   clear hM5 hT5 hN5 hs5
   go_wp2_with (at_range; refine wpList_range_mp _ dM rfl _ rfl bn _ _ rfl HN5.out ?_; intro w6 cnt0 hrg0 hcnt hg0 hs0)
   go_frame
   have HR0 := Lib.hid hrg0
   have HCN := Lib.hid hcnt
   have HB6 : Hid (Below w5.heap.size w5 w6) := (Below.refl w5.heap.size w5).grown hg0 (Nat.le_refl _) (fun j hj => by cases hj)
   have HM6 := Lib.hid (HM5.out.of_block (hg0.block g (by have := HS5.out; omega) (by simp)))
   have HG6 : Hid (w6.heap.size = w5.heap.size + 1) := hs0
   have HB6g : Hid (Turned (fun k => g ≤ k) w5 w6) := (Turned.of_grown hg0).mono fun k _ h => by cases h
   clear hrg0 hcnt hg0 hs0 d3 z3 hw3 d4 z4 hw4 e5 hl4 hw5 g5 hmk hg
   have HBG : Hid (b < g ∧ bf < g ∧ bn < g ∧ w1.heap.size < g) := by
    have h1 := HP2.out.lt b (by rw [HP2.out.mine]; rfl)
    have h2 := HP2.out.body.files.lt_
    have h3 := HP2.out.body.names.lt_
    have h4 := HT4.out.size
    have h5 := HG.out
    have h6 := HS2.out
    exact ⟨by omega, by omega, by omega, by omega⟩
   have HRD : Hid (∀ wr, Turned (fun k => g ≤ k) w5 wr → wr.cell? ⟨b, 1, none⟩ = some (.map (some bf)) ∧ IsMp fM wr bf (64 + u.acts + 0) ff) := fun wr ht => ⟨head_cellP ((ht.block b (by have := HBG.out; have := HS5.out; omega) (by have := HBG.out; omega)).trans HHS.out) rfl, HBF.out.turned_ ht (by have := HBG.out; omega)⟩
   have HFA : Hid (∀ e ∈ u.seen, ∃ x, ff (e.2 : Int) = some x ∧ e.2 < 9223372036854775807) := fun e he => by
    obtain ⟨x, h1, h2, _⟩ := HP2.out.file_at (n := e.2) ⟨u.seen, .inr (.inl rfl), e, he, rfl⟩
    have h3 := HP2.out.good.files
    have h4 := HP2.out.good.acts
    exact ⟨x, h1, by omega⟩
   have HOK := Lib.hid HP2.out.good.seen
   have HAC := Lib.hid HP2.out.good.acts
   go_loopw [7] (fun _ wr => ∃ (L : ByteArray → Bool) (cnt : Nat), Hid (IsRg dM wr bn w5.heap.size (64 + u.acts + 0) (Sf.dirF u.seen) L cnt) ∧ cnt ≤ cnt0 ∧ Hid (IsMp fM wr g (cnt0 - cnt) (restr ff (Sf.passed u.seen L))) ∧ Hid (Turned (fun k => g ≤ k) w5 wr)) (fun _ wr => wr.rangeLeft bn w5.heap.size)
   case atStart =>
    refine ⟨_, cnt0, HR0.out, Nat.le_refl _, ?_, HB6g.out⟩
    rw [Sf.passed_none (fun e he => by
     unfold Sf.dirF
     rw [HOK.out.find.2 (show (e.1, e.2) ∈ u.seen from he)]
     rfl), restr_nil]
    exact HM6.out.mono_ (by omega)
   case round =>
    obtain ⟨L, cnt, HRG, hcc, HMR, HTR⟩ := hrel
    clear HR0 HM6 HB6g HB6
    go_wp2_with (at_next; refine wpList_next_dir _ rfl _ rfl bn w5.heap.size _ _ L cnt rfl HRG.out ?_ ?_)
    ·intro hl0
     have hp : Sf.passed u.seen L = u.seen := Sf.passed_all fun e he => hl0 e.1 (Sf.name_max (HOK.out.name e he))
     rw [hp] at HMR
     have HCL := Lib.hid (hcc : cnt ≤ cnt0)
     have c1 := (HRD.out wr HTR.out).1
     have hhr : IsHead wr b (headP u bf w1.heap.size bn ⟨none, 0, 0⟩) := (HTR.out.block b (by have := HBG.out; have := HS5.out; omega) (by have := HBG.out; omega)).trans HHS.out
     have z1 : wr.frozen? ⟨b, 1, none⟩ = false := frozen_of_row wr b 1 _ _ hhr
     have hh9 := head_setP hhr 1 (.map (some g)) (C' := headP { u with sure := u.seen, row := [] } g w1.heap.size bn ⟨none, 0, 0⟩) rfl
     have hT9 : Turned (fun k => k = b) wr (wr.setCell ⟨b, 1, none⟩ (.map (some g))) := Turned.setCell (F := fun k => k = b) (Turned.refl (fun k => k = b) wr) (p := ⟨b, 1, none⟩) (fun _ => rfl) _
     obtain ⟨w9, hw9⟩ : ∃ w9, wr.setCell ⟨b, 1, none⟩ (.map (some g)) = w9 := ⟨_, rfl⟩
     rw [hw9] at hh9 hT9
     have HH9 := Lib.hid hh9
     have HT9 := Lib.hid hT9
     clear hhr hh9 hT9 hl0 hp hcc
     go_wp2
     go_ret
     rw [HE.out]
     have hz : b < g ∧ bf < g ∧ bn < g ∧ w1.heap.size < g := HBG.out
     have hz1 := HP1.out.lt b (by rw [HP1.out.mine]; rfl)
     have TB : Turned (fun k => k = b) w1 w9 := by
      have t1 : Turned (fun k => k = b ∨ w1.heap.size ≤ k) w1 w2 := (Turned.of_below HB2.out).mono fun k _ h => .inr h
      have t2 := t1.trans HT4.out (fun k _ h => .inl h)
      have t3 := t2.trans HT5.out (fun k _ h => h.elim)
      have t4 := t3.trans HTR.out (fun k _ h => .inr (by omega))
      have t5 := t4.trans HT9.out (fun k _ h => .inl h)
      exact t5.mono fun k hk h => h.elim id (fun h => by omega)
     obtain ⟨who', hwho⟩ : ∃ who' : Who, (fun k => if k = g then some Role.files else if k = w1.heap.size then some Role.sure else who k) = who' := ⟨_, rfl⟩
     have hmore : More who who' := fun k r hk => by
      have hlt := HP1.out.lt k (by rw [hk]; rfl)
      rw [← hwho]
      show (if k = g then some Role.files else if k = w1.heap.size then some Role.sure else who k) = some r
      rw [if_neg (by omega), if_neg (by omega), hk]
     have hwg : who' g = some .files := by rw [← hwho]; exact if_pos rfl
     have hws : who' w1.heap.size = some .sure := by rw [← hwho]; exact (if_neg (by omega)).trans (if_pos rfl)
     have hsm : ∀ k, (who' k).isSome → (who k).isSome ∨ (w1.heap.size ≤ k ∧ k ≤ g) := fun k hk => by
      rw [← hwho] at hk
      by_cases e1 : k = g
      ·exact .inr ⟨by omega, by omega⟩
      ·by_cases e2 : k = w1.heap.size
       ·exact .inr ⟨by omega, by omega⟩
       ·have hk' : (if k = g then some Role.files else if k = w1.heap.size then some Role.sure else who k).isSome := hk
        rw [if_neg e1, if_neg e2] at hk'
        exact .inl hk'
     have hg9 : g < w9.heap.size := by
      have h1 := HTR.out.size
      have h2 := HT9.out.size
      have h3 := HS5.out
      omega
     have hmap : IsMp fM w9 g (64 + u.acts + 0) (restr ff u.seen) := (HMR.out.turned_ HT9.out (by omega)).mono_ (by have := HCL.out; have := HCN.out; omega)
     have hsu : IsMp dM w9 w1.heap.size (64 + u.acts + 0) (Sf.dirF u.seen) := (((HM2.out.turned_ HT4.out (by omega)).turned_ HT5.out (fun h => h)).turned_ HTR.out (by omega)).turned_ HT9.out (by omega)
     refine ⟨rfl, fpOf who', ⟨who', g, w1.heap.size, bn, ⟨none, 0, 0⟩, restr ff u.seen, [], HH9.out, HP1.out.body.sync_dir hmore TB (fun k hk => .inr (by rw [hk]; exact HP1.out.mine)) hmap hsu hwg hws, HP1.out.good.sync_dir, hmore _ _ HP1.out.mine, fun k => Iff.rfl, fun k h => h, fun k hk => ?_⟩, ⟨fun k hk => ?_, fun k hk => hk.elim⟩, ?_⟩
     ·rcases hsm k hk with h | h
      ·exact Nat.lt_of_lt_of_le (HP1.out.lt k h) TB.size
      ·omega
     ·rcases hsm k hk with h | h
      ·exact .inl ((HH.out.m k).2 h)
      ·exact .inr (Nat.le_trans HT1.out.size h.1)
     ·exact (turned_mine HH.out HT1.out).trans TB (fun k _ e => by rw [e]; exact (HH.out.m b).2 (by rw [HH.out.mine]; rfl))
    ·intro x c w7 cnt1 hx hLx hfx hrg1 hlt hg1 hs1 hen
     obtain ⟨n, hfd, rfl⟩ : ∃ n : Nat, Sf.find u.seen x = some n ∧ (n : Int) = c := by
      unfold Sf.dirF at hfx
      obtain ⟨n, h1, h2⟩ := Option.map_eq_some_iff.1 hfx
      exact ⟨n, h1, h2⟩
     have hm := HOK.out.find.1 hfd
     obtain ⟨y, hy, hyi⟩ := HFA.out _ hm
     simp only at hy hyi
     have hb1 : Turned (fun k => g ≤ k) w5 w7 := HTR.out.trans (Turned.of_grown hg1) (fun k hk e => by have := HS5.out; have := Option.some.inj e; omega)
     obtain ⟨c1, hmp⟩ := HRD.out w7 hb1
     have hlk := look_file hmp hy hyi
     have hst := Sf.passed_step HOK.out.nodup hm hLx
     have hMR7 : IsMp fM w7 g (cnt0 - cnt) (restr ff (Sf.passed u.seen L)) := HMR.out.of_block (hg1.block g HMR.out.lt_ (fun e => by have := HS5.out; have := Option.some.inj e; omega))
     have HWF : Hid (fM.ok (n : Int)) := WalkArith.wf_i64 (by omega)
     have HMR7 := Lib.hid hMR7
     have HEQ : Hid (restr ff (Sf.passed u.seen (fun z => L z && !decide (z = x))) = fun i => if i = (n : Int) then some y else restr ff (Sf.passed u.seen L) i) := by
      unfold Hid
      rw [restr_perm hst, restr_cons hy]
     have HRG1 := Lib.hid hrg1
     have HB1 := Lib.hid hb1
     have HLT := Lib.hid hlt
     have HLE := Lib.hid HRG.out.left_eq
     have HCC := Lib.hid (hcc : cnt ≤ cnt0)
     have HC0 : Hid (cnt0 ≤ 64 + u.acts + 0) := HCN.out
     clear hst hmp hb1 hg1 hs1 hrg1 hlt hm hfd hfx hyi HRG HTR hLx hx hMR7 HMR hcc
     go_wp2_with (at_mapUpdate; refine wpList_mapUpdate_mp _ fM rfl _ _ _ rfl g _ _ rfl HMR7.out (by have := HC0.out; have := HAC.out; simp only [maxLen]; omega) (n : Int) rfl HWF.out y rfl ?_; intro w8 hm8 hg8; go_frame)
     have HRG8 := Lib.hid (HRG1.out.kept_ hg8 (fun e => by have := HBG.out; have := Option.some.inj e; omega) (fun e => by have := HS5.out; have := Option.some.inj e; omega))
     have HB8 : Hid (Turned (fun k => g ≤ k) w5 w8) := HB1.out.trans (Turned.of_grown hg8) (fun k hk e => by have := Option.some.inj e; omega)
     go_roundw
     case rel =>
      refine ⟨_, cnt1, HRG8.out, by have := HLT.out; have := HCC.out; omega, ?_, HB8.out⟩
      rw [HEQ.out]
      exact hm8.mono_ (by have := HLT.out; have := HCC.out; omega)
     case measure => rw [HRG8.out.left_eq, HLE.out]; exact HLT.out
  ·have hq : ((er : Int) != 0) = true := by rw [bne_iff_ne]; omega
   have HE := Lib.hid (HE0.out.trans (if_pos he))
   clear HE0 he
   go_enter Tryz.func54, Tryz.ntmps54
   go_wp2_with fail
   refine CR.out.mono ?_
   rintro e1 w1 ⟨rfl, rfl⟩
   clear CR
   go_wp2_with fail
   refine CA.out.mono ?_
   rintro e1 w1 ⟨rfl, h1, hT1⟩
   have H1 := Lib.hid h1
   have H2 := Lib.hid hT1
   clear CA h1 hT1
   go_wp2
   go_ret
   rw [HE.out]
   exact ⟨rfl, fp, ⟨_, _, _, _, _, _, _, H1.out⟩, Fp.Next.refl _ _, turned_mine HH.out H2.out⟩
end
end Go.Proofs.YtiafeniflkikeaaGreat
