/-
  PfLayK: maps.Keys, slices.Sorted over a directory, as they stand in this program (the text of the layings comes of the kit's own lay-plain).
  PfKeys: simfs: rising, Names.
  PfNames: simfs: Names; maps.Clone of a directory.
-/
import Derived.Shelf.SlIter.Nil
import Derived.Shelf.SortM.Plain
import Derived.Shelf.SortM.SortNone
import Derived.Test.YtmcbjcbnckpfkaaRows
import Derived.Test.YtmcbjcbnckpfkaaChecked
import Derived.Test.YtmcbjcbnckpfkaaPn12
import Derived.Test.YtmcbjcbnckpfkaaPn08
import Derived.Shelf.SlMaps.Clone
namespace Go.Proofs.Ytmcbjcbnckpfkaa
open Go.Shelf Go.Proofs
def keysM_ren : Go.Shelf.Ren := ⟨fun | 7 => 65 | 10 => 72 | n => n, fun | 23 => 47 | 26 => 9 | 3 => 3 | 28 => 101 | 0 => 0 | 27 => 100 | 33 => 71 | 4 => 4 | n => n, fun | n => n⟩
theorem keysM : Go.Proofs.SlLaysZ.n7 Try.prog keysM_ren := {
  mixed := by kernel_rfl
  f7 := ⟨Try.f65.name, by decide, Try.func65.trans (congrArg some (by kernel_rfl))⟩
  f10 := ⟨Try.f72.name, by decide, Try.func72.trans (congrArg some (by kernel_rfl))⟩
  t0 := Try.underlying0
  a0 := Try.isAgg0
  z0 := Try.sizeOf0
  v0 := Try.zeroValue0
  t4 := Try.underlying4
  a4 := Try.isAgg4
  z4 := Try.sizeOf4
  v4 := Try.zeroValue4
  t23 := Try.underlying47
  a23 := Try.isAgg47
  z23 := Try.sizeOf47
  v23 := Try.zeroValue47
  t26 := Try.underlying9
  a26 := Try.isAgg9
  z26 := Try.sizeOf9
  v26 := Try.zeroValue9
  t27 := Try.underlying100
  a27 := Try.isAgg100
  z27 := Try.sizeOf100
  v27 := Try.zeroValue100
  t28 := Try.underlying101
  a28 := Try.isAgg101
  z28 := Try.sizeOf101
  v28 := Try.zeroValue101
  t33 := Try.underlying71
  a33 := Try.isAgg71
  z33 := Try.sizeOf71
  v33 := Try.zeroValue71 }
def sortedS_ren : Go.Shelf.Ren := ⟨fun | 6 => 64 | 8 => 70 | 9 => 71 | 11 => 73 | 13 => 75 | 12 => 74 | 23 => 85 | 24 => 86 | 14 => 76 | 15 => 77 | 16 => 78 | 17 => 79 | 18 => 80 | 19 => 81 | 20 => 82 | 21 => 83 | 22 => 84 | 25 => 87 | 26 => 88 | 27 => 89 | 28 => 90 | 29 => 91 | 30 => 92 | 31 => 93 | n => n, fun | 26 => 9 | 28 => 101 | 24 => 54 | 0 => 0 | 3 => 3 | 37 => 111 | 48 => 121 | 50 => 98 | 4 => 4 | 40 => 114 | 39 => 113 | 45 => 72 | 5 => 5 | 9 => 9 | 51 => 123 | 55 => 127 | 57 => 129 | 58 => 130 | 33 => 71 | n => n, fun | n => n⟩
theorem sortedS : Go.Proofs.SlLaysZ.n6 Try.prog sortedS_ren := {
  mixed := by kernel_rfl
  f6 := ⟨Try.f64.name, by decide, Try.func64.trans (congrArg some (by kernel_rfl))⟩
  f8 := ⟨Try.f70.name, by decide, Try.func70.trans (congrArg some (by kernel_rfl))⟩
  f11 := ⟨Try.f73.name, by decide, Try.func73.trans (congrArg some (by kernel_rfl))⟩
  t0 := Try.underlying0
  a0 := Try.isAgg0
  z0 := Try.sizeOf0
  v0 := Try.zeroValue0
  t24 := Try.underlying54
  a24 := Try.isAgg54
  z24 := Try.sizeOf54
  v24 := Try.zeroValue54
  t26 := Try.underlying9
  a26 := Try.isAgg9
  z26 := Try.sizeOf9
  v26 := Try.zeroValue9
  t28 := Try.underlying101
  a28 := Try.isAgg101
  z28 := Try.sizeOf101
  v28 := Try.zeroValue101
  i26 := by kernel_rfl }
def sortS_ren : Go.Shelf.Ren := ⟨fun | 6 => 71 | 8 => 75 | 9 => 74 | 19 => 85 | 20 => 86 | 21 => 76 | 22 => 77 | 23 => 78 | 24 => 79 | 25 => 80 | 26 => 81 | 27 => 82 | 28 => 83 | 29 => 84 | 36 => 87 | 31 => 88 | 32 => 89 | 37 => 90 | 38 => 91 | 39 => 92 | 41 => 93 | n => n, fun | 27 => 54 | 29 => 9 | 3 => 3 | 32 => 111 | 26 => 54 | 0 => 0 | 44 => 121 | 46 => 98 | 4 => 4 | 36 => 114 | 35 => 113 | 41 => 72 | 5 => 5 | 9 => 9 | 53 => 123 | 57 => 127 | 63 => 129 | 64 => 130 | n => n, fun | n => n⟩
theorem sortS : Go.Proofs.SlLaysM.n6 Try.prog sortS_ren := {
  mixed := by kernel_rfl
  f6 := ⟨Try.f71.name, by decide, Try.func71.trans (congrArg some (by kernel_rfl))⟩
  f8 := Try.func75.trans (congrArg some (by kernel_rfl))
  f9 := ⟨Try.f74.name, by decide, Try.func74.trans (congrArg some (by kernel_rfl))⟩
  f19 := Try.func85.trans (congrArg some (by kernel_rfl))
  f20 := Try.func86.trans (congrArg some (by kernel_rfl))
  f21 := ⟨Try.f76.name, by decide, Try.func76.trans (congrArg some (by kernel_rfl))⟩
  f22 := ⟨Try.f77.name, by decide, Try.func77.trans (congrArg some (by kernel_rfl))⟩
  f23 := ⟨Try.f78.name, by decide, Try.func78.trans (congrArg some (by kernel_rfl))⟩
  f24 := ⟨Try.f79.name, by decide, Try.func79.trans (congrArg some (by kernel_rfl))⟩
  f25 := ⟨Try.f80.name, by decide, Try.func80.trans (congrArg some (by kernel_rfl))⟩
  f26 := ⟨Try.f81.name, by decide, Try.func81.trans (congrArg some (by kernel_rfl))⟩
  f27 := ⟨Try.f82.name, by decide, Try.func82.trans (congrArg some (by kernel_rfl))⟩
  f28 := ⟨Try.f83.name, by decide, Try.func83.trans (congrArg some (by kernel_rfl))⟩
  f29 := ⟨Try.f84.name, by decide, Try.func84.trans (congrArg some (by kernel_rfl))⟩
  f31 := Try.func88.trans (congrArg some (by kernel_rfl))
  f32 := Try.func89.trans (congrArg some (by kernel_rfl))
  f36 := ⟨Try.f87.name, by decide, Try.func87.trans (congrArg some (by kernel_rfl))⟩
  f37 := ⟨Try.f90.name, by decide, Try.func90.trans (congrArg some (by kernel_rfl))⟩
  f38 := ⟨Try.f91.name, by decide, Try.func91.trans (congrArg some (by kernel_rfl))⟩
  f39 := ⟨Try.f92.name, by decide, Try.func92.trans (congrArg some (by kernel_rfl))⟩
  f41 := ⟨Try.f93.name, by decide, Try.func93.trans (congrArg some (by kernel_rfl))⟩
  t0 := Try.underlying0
  a0 := Try.isAgg0
  z0 := Try.sizeOf0
  v0 := Try.zeroValue0
  t3 := Try.underlying3
  a3 := Try.isAgg3
  z3 := Try.sizeOf3
  v3 := Try.zeroValue3
  t4 := Try.underlying4
  a4 := Try.isAgg4
  z4 := Try.sizeOf4
  v4 := Try.zeroValue4
  t5 := Try.underlying5
  a5 := Try.isAgg5
  z5 := Try.sizeOf5
  v5 := Try.zeroValue5
  t9 := Try.underlying9
  a9 := Try.isAgg9
  z9 := Try.sizeOf9
  v9 := Try.zeroValue9
  t26 := Try.underlying54
  a26 := Try.isAgg54
  z26 := Try.sizeOf54
  v26 := Try.zeroValue54
  t27 := Try.underlying54
  a27 := Try.isAgg54
  z27 := Try.sizeOf54
  v27 := Try.zeroValue54
  t29 := Try.underlying9
  a29 := Try.isAgg9
  z29 := Try.sizeOf9
  v29 := Try.zeroValue9
  t32 := Try.underlying111
  a32 := Try.isAgg111
  z32 := Try.sizeOf111
  v32 := Try.zeroValue111
  t35 := Try.underlying113
  a35 := Try.isAgg113
  z35 := Try.sizeOf113
  v35 := Try.zeroValue113
  t36 := Try.underlying114
  a36 := Try.isAgg114
  z36 := Try.sizeOf114
  v36 := Try.zeroValue114
  t41 := Try.underlying72
  a41 := Try.isAgg72
  z41 := Try.sizeOf72
  v41 := Try.zeroValue72
  t44 := Try.underlying121
  a44 := Try.isAgg121
  z44 := Try.sizeOf121
  v44 := Try.zeroValue121
  t46 := Try.underlying98
  a46 := Try.isAgg98
  z46 := Try.sizeOf98
  v46 := Try.zeroValue98
  t53 := Try.underlying123
  a53 := Try.isAgg123
  z53 := Try.sizeOf123
  v53 := Try.zeroValue123
  t57 := Try.underlying127
  a57 := Try.isAgg127
  z57 := Try.sizeOf127
  v57 := Try.zeroValue127
  t63 := Try.underlying129
  a63 := Try.isAgg129
  z63 := Try.sizeOf129
  v63 := Try.zeroValue129
  t64 := Try.underlying130
  a64 := Try.isAgg130
  z64 := Try.sizeOf130
  v64 := Try.zeroValue130 }

end Go.Proofs.Ytmcbjcbnckpfkaa
namespace Go.Proofs.Ytmcbjcbnckpfkaa
open Go.RowKit Go.Maps Go.Sort Go.Shelf Go.Proofs
set_option linter.unusedVariables false
theorem sortsS (m : Nat) : AnyZ.SortsIn Try.prog sortedS_ren Fence.wide m :=
  ⟨fun blk off cap ss W hH hblk hsz => callsIn_wide.2 (AnyM.slices_Sort_string sortS blk off cap ss W hH hblk hsz),
   fun p cap W => callsIn_wide.2 (AnyM.slices_Sort_string_none sortS p cap W)⟩
theorem keys_dir (mb : Option Nat) (W : World) : CallsIn Fence.wide 5 Try.prog 65 #[.map mb] W fun e w' => e = .returned (.func (.func 72) #[] #[.pointer (some ⟨W.heap.size, 0, none⟩)]) ∧ w' = W.alloc (.cells #[.map mb] 47) :=
  AnyZ.keys_in keysM Fence.wide 5 trivial rfl mb W
set_option maxHeartbeats 1000000 in
theorem sorted_dir (b nn : Nat) (D0 : DataW Unit) (R : Value → Option (DataW Unit × List MemPlace)) (w : World) (hown : w.ownsMap Try.prog 9 R b nn D0) (hmax : Maps.size D0 ≤ maxLen) (hbytes : Maps.size D0 * 16 ≤ 140737488355328) :
    CallsIn Fence.wide 5 Try.prog 64 #[.func (.func 72) #[] #[.pointer (some ⟨w.heap.size, 0, none⟩)]] (w.alloc (.cells #[.map (some b)] 47)) fun e w' => ∃ (v : Value) (ss : List (List UInt8)), e = .returned v ∧ ss.Perm (strKeys D0) ∧
      w'.ownsRow (w.alloc (.cells #[.map (some b)] 47)).heap.size 9 1 v ss.length ((ss.mergeSort (fun x y => decide (x ≤ y))).map encStr) ∧ Below (w.alloc (.cells #[.map (some b)] 47)).heap.size (w.alloc (.cells #[.map (some b)] 47)) w' := by
  have hbl := hown.lt
  have hseq : SeqGives Fence.wide 2 Try.prog 72 #[.pointer (some ⟨w.heap.size, 0, none⟩)] encStr (fun ss => ss.Perm (strKeys D0)) (Maps.size D0) (w.alloc (.cells #[.map (some b)] 47)) :=
    AnyZ.keys_gives (ρ := keysM_ren) { keysM with } Fence.wide _ trivial rfl (by omega) w.heap.size b nn D0 _ (by simp) (by simp) (by
      obtain ⟨es, clock, hb, Ft, hs, hD⟩ := hown
      exact ⟨es, clock, (Below.heap_alloc _ _ b hbl).trans hb, Ft, hs, hD⟩)
  refine (AnyZ.sorted_in sortedS Fence.wide 5 trivial trivial trivial trivial rfl (by omega) (sortsS _) (enters_of Try.func71 (by kernel_rfl) rfl) 72 #[.pointer (some ⟨w.heap.size, 0, none⟩)] trivial (enters_of Try.func72 (by kernel_rfl) rfl) _ _ hmax hbytes _ hseq).mono ?_
  rintro e w' ⟨v, ss, h1, h2, h3, _, h4⟩
  exact ⟨v, ss, h1, h2, h3, h4⟩
/-- Sorted keys are the names, as they rise. -/
theorem keys_sorted {d : Sf.Dir} (hd : Sf.OkDir d) {ss : List (List UInt8)} (h : ss.Perm (d.map fun e => e.1.data.toList)) : ss.mergeSort (fun x y => decide (x ≤ y)) = d.map fun e => e.1.data.toList := by
  have hr : (d.map fun e => e.1.data.toList).Pairwise (fun x y => x ≤ y) := by
    rw [List.pairwise_map]
    refine List.Pairwise.imp (fun {a b} hab => ?_) hd.rise
    rw [ByteArray.toList_eq, ByteArray.toList_eq] at hab
    exact List.le_of_lt hab
  refine List.Perm.eq_of_pairwise (le := fun x y => x ≤ y) (fun a b _ _ h1 h2 => List.le_antisymm h1 h2) ?_ hr ((List.mergeSort_perm ss _).trans h)
  have := List.pairwise_mergeSort (le := fun x y : List UInt8 => decide (x ≤ y)) (fun a b c h1 h2 => by
    simp only [decide_eq_true_eq] at h1 h2 ⊢
    exact List.le_trans h1 h2) (fun a b => by
    simp only [Bool.or_eq_true, decide_eq_true_eq]
    exact List.le_total a b) ss
  exact List.Pairwise.imp (fun {a b} h => by simpa using h) this
set_option maxHeartbeats 1000000 in
set_option maxRecDepth 100000 in
theorem prising_any (b n : Nat) (d : Sf.Dir) (w : World) (h : IsMp dM w b n (Sf.dirF d)) (hd : Sf.OkDir d) (hl : d.length ≤ 64) : Calls Try.prog 52 #[.map (some b)] w (IsQ1 sK (d.map (·.1)) w) := by
  obtain ⟨D, h1, h2⟩ := h
  have hp := Tells.perm (K := dM) dM_ok h1 h2 (Sf.dirL d) (by rw [Sf.dirL_keys]; exact hd.nodup) (fun e he => by
    obtain ⟨x, hx, rfl⟩ := List.mem_map.1 he
    exact Sf.name_max (hd.name x hx)) (fun x _ y => Sf.dirF_iff hd x y)
  obtain ⟨es, rfl, hp⟩ := hp
  have hsz : Maps.size (DataW.map es : DataW Unit) = d.length := by rw [Maps.size_eq, hp.length_eq, List.length_map, Sf.dirL, List.length_map]
  have hkeys : (strKeys (DataW.map es : DataW Unit)).Perm (d.map fun e => e.1.data.toList) := by
    have := hp.map fun p : Lit × DataW Unit => strOf p.1
    rw [List.map_map, Sf.dirL, List.map_map] at this
    exact this
  have CS := Lib.hid (sorted_dir b n (DataW.map es) dM.read w h1 (by rw [hsz]; simp only [maxLen]; omega) (by rw [hsz]; omega))
  have CK := Lib.hid (keys_dir (some b) w)
  have HK := Lib.hid hkeys
  have HD := Lib.hid hd
  clear h1 h2 hp hsz hkeys hd
  refine (callsIn_wide (n := 6)).1 ?_
  have hfK : Fence.wide.fn 65 := trivial
  have hfS : Fence.wide.fn 64 := trivial
  refine callsIn_of_wp Try.func52 rfl trivial ?_ rfl
  simp only [Try.ntmps52, List.size_toArray, List.length_cons, List.length_nil, Nat.reduceAdd, Nat.reduceSub, Array.replicate_succ, Array.replicate_zero, List.push_toArray, List.append_toArray, List.nil_append, List.cons_append]
  gi_wp2_with (first
    | (gi_at_call 65; refine CK.out.mono ?_; rintro e w1 ⟨rfl, rfl⟩)
    | (gi_at_call 64; refine CS.out.mono ?_; rintro e w2 ⟨v, ss, rfl, hS, hrow, hb⟩))
  go_ret
  have hm := keys_sorted HD.out (hS.trans HK.out)
  rw [hm] at hrow
  have hlen : ss.length = (d.map (·.1)).length := by rw [(hS.trans HK.out).length_eq, List.length_map, List.length_map]
  have hflat : (d.map fun e => e.1.data.toList).map encStr = sK.flat (d.map (·.1)) := by
    clear hrow hlen hm CS CK HK hS HD
    induction d with
    | nil => rfl
    | cons e d ih =>
      rw [List.map_cons, List.map_cons, List.map_cons, flat_cons, ih (by simp at hl ⊢; omega)]
      rfl
  rw [hflat, hlen] at hrow
  have hb2 : Below w.heap.size w w2 := ((Below.refl _ w).alloc (Nat.le_refl _) _).trans (hb.mono (by simp))
  have hok : ∀ x ∈ d.map (·.1), sK.ok x := fun x hx => by
    obtain ⟨e, he, rfl⟩ := List.mem_map.1 hx
    exact Sf.name_max (HD.out.name e he)
  have hO := (OwnQ.of_row (K := sK) hok hrow).mono_ (base' := w.heap.size) (by simp)
  obtain ⟨A, c, e, _⟩ := hO.form_
  subst e
  exact ⟨A, c, rfl, hO, hb2⟩
end Go.Proofs.Ytmcbjcbnckpfkaa
namespace Go.Proofs.Ytmcbjcbnckpfkaa
open Go.RowKit
set_option linter.unusedVariables false
section
variable {w : World} {fp : Fp} {s : Nat} {t : Sf.St} {b : Nat} {who : Who} {bf bs bn : Nat} {vr : Sl} {ff : Int → Option RawX} {rn : List RawN}
set_option maxHeartbeats 1000000 in
set_option maxRecDepth 100000 in
theorem pnames_any (h : PDisk w fp t b) : Calls Try.prog 25 #[.pointer (some ⟨b, 0, none⟩)] w (IsQ1 sK (Sf.names t) w) := by
  obtain ⟨who, bf, bs, bn, vr, ff, rn, h⟩ := h
  have CR := Lib.hid (prefusal_disk h)
  have h5 : w.cell? ⟨b, 5, none⟩ = some (.map (some bn)) := h.cell rfl
  have CK := Lib.hid (prising_any bn _ t.seen w h.body.names h.good.seen (h.good.lens t.seen (.inr (.inl rfl))).1)
  clear h
  cases hd : t.dead with
  | true =>
    have HE : Hid (Sf.names t = []) := if_pos hd
    rw [hd] at CR
    clear hd CK
    go_enter Try.func25, Try.ntmps25
    go_wp2_with fail
    refine CR.out.mono ?_
    rintro e1 w1 ⟨rfl, rfl⟩
    clear CR
    go_wp2
    go_ret
    rw [HE.out]
    exact ⟨none, 0, rfl, OwnQ.nil_ _ _ _, Below.refl _ _⟩
  | false =>
    have HE : Hid (Sf.names t = t.seen.map (·.1)) := if_neg (by rw [hd]; simp)
    rw [hd] at CR
    rw [← HE.out] at CK
    clear hd
    go_enter Try.func25, Try.ntmps25
    go_wp2_with fail
    refine CR.out.mono ?_
    rintro e1 w1 ⟨rfl, rfl⟩
    clear CR
    go_wp2_with fail
    refine CK.out.mono ?_
    rintro e2 w2 ⟨A, c, rfl, ho, hb⟩
    have HO := Lib.hid ho
    have HB := Lib.hid hb
    clear CK ho hb
    go_wp2
    go_ret
    exact ⟨A, c, rfl, HO.out, HB.out⟩
set_option maxHeartbeats 1000000 in
set_option maxRecDepth 100000 in
/-- A copy of a directory: a new block. -/
theorem pmclone_any (b n : Nat) (f : ByteArray → Option Int) (w : World) (h : IsMp dM w b n f) : Calls Try.prog 46 #[.map (some b)] w (fun e w' => e = .returned (.map (some w.heap.size)) ∧ IsMp dM w' w.heap.size n f ∧ Below w.heap.size w w' ∧ w'.heap.size = w.heap.size + 1) := by
  obtain ⟨D, ⟨es, clock, hb, F, hs, hD⟩, hT⟩ := h
  have hq := fun w => eql_map_nil w 47 _ _ (some b) Try.underlying47
  go_enter Try.func46, Try.ntmps46
  go_wp2
  rw [run_callFunc_extern Try.func63 (by kernel_rfl) (by kernel_rfl) (by kernel_rfl) (e := Extern.MapsClone.clone) (by kernel_rfl), run_maps_clone_sl w 47 hb]
  simp only [Result.andThen]
  rw [Oper.upon_value]
  go_wp2
  rw [run_typeAssert_map_sl _ 47 20 _ _ _ Try.underlying47]
  simp only [Result.andThen]
  rw [Oper.upon_value]
  go_wp2
  go_ret
  exact ⟨rfl, ⟨D, ⟨es, clock, (MapKept.heap_alloc w _).1, F, hs, hD⟩, hT⟩, (Below.refl _ w).alloc (Nat.le_refl _) _, by simp⟩
end
end Go.Proofs.Ytmcbjcbnckpfkaa
