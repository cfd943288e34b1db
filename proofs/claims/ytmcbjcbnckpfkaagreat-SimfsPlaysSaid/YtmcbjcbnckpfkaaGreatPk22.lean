/-
  PfKeys: simfs: rising, Names.
  PfNames: simfs: Names; maps.Clone of a directory.
  PfU: simfs: Used: a sum over the directory, in whatever order.
-/
import Derived.Test.YtmcbjcbnckpfkaaGreatPk21
import Derived.Test.YtmcbjcbnckpfkaaGreatPk13
import Derived.Test.YtmcbjcbnckpfkaaGreatPk10
import Derived.Shelf.SlMaps.Clone
namespace Go.Proofs.YtmcbjcbnckpfkaaGreat
open Go.RowKit Go.Maps Go.Sort Go.Shelf Go.Proofs
set_option linter.unusedVariables false
theorem sortsS (m : Nat) : AnyZ.SortsIn Tryz.prog sortedS_ren Fence.wide m :=
  ⟨fun blk off cap ss W hH hblk hsz => callsIn_wide.2 (AnyM.slices_Sort_string sortS blk off cap ss W hH hblk hsz),
   fun p cap W => callsIn_wide.2 (AnyM.slices_Sort_string_none sortS p cap W)⟩
theorem keys_dir (mb : Option Nat) (W : World) : CallsIn Fence.wide 5 Tryz.prog 89 #[.map mb] W fun e w' => e = .returned (.func (.func 98) #[] #[.pointer (some ⟨W.heap.size, 0, none⟩)]) ∧ w' = W.alloc (.cells #[.map mb] 75) :=
  AnyZ.keys_in keysM Fence.wide 5 trivial rfl mb W
set_option maxHeartbeats 1000000 in
theorem sorted_dir (b nn : Nat) (D0 : DataW Unit) (R : Value → Option (DataW Unit × List MemPlace)) (w : World) (hown : w.ownsMap Tryz.prog 9 R b nn D0) (hmax : Maps.size D0 ≤ maxLen) (hbytes : Maps.size D0 * 16 ≤ 140737488355328) :
    CallsIn Fence.wide 5 Tryz.prog 88 #[.func (.func 98) #[] #[.pointer (some ⟨w.heap.size, 0, none⟩)]] (w.alloc (.cells #[.map (some b)] 75)) fun e w' => ∃ (v : Value) (ss : List (List UInt8)), e = .returned v ∧ ss.Perm (strKeys D0) ∧
      w'.ownsRow (w.alloc (.cells #[.map (some b)] 75)).heap.size 9 1 v ss.length ((ss.mergeSort (fun x y => decide (x ≤ y))).map encStr) ∧ Below (w.alloc (.cells #[.map (some b)] 75)).heap.size (w.alloc (.cells #[.map (some b)] 75)) w' := by
  have hbl := hown.lt
  have hseq : SeqGives Fence.wide 2 Tryz.prog 98 #[.pointer (some ⟨w.heap.size, 0, none⟩)] encStr (fun ss => ss.Perm (strKeys D0)) (Maps.size D0) (w.alloc (.cells #[.map (some b)] 75)) :=
    AnyZ.keys_gives (ρ := keysM_ren) { keysM with } Fence.wide _ trivial rfl (by omega) w.heap.size b nn D0 _ (by simp) (by simp) (by
      obtain ⟨es, clock, hb, Ft, hs, hD⟩ := hown
      exact ⟨es, clock, (Below.heap_alloc _ _ b hbl).trans hb, Ft, hs, hD⟩)
  refine (AnyZ.sorted_in sortedS Fence.wide 5 trivial trivial trivial trivial rfl (by omega) (sortsS _) (enters_of Tryz.func97 (by kernel_rfl) rfl) 98 #[.pointer (some ⟨w.heap.size, 0, none⟩)] trivial (enters_of Tryz.func98 (by kernel_rfl) rfl) _ _ hmax hbytes _ hseq).mono ?_
  rintro e w' ⟨v, ss, h1, h2, h3, _, h4⟩
  exact ⟨v, ss, h1, h2, h3, h4⟩
/-- Sorted keys are the names, as they rise. -/
theorem keys_sorted {d : Sf.Dir} (hd : Sf.OkDir d) {ss : List (List UInt8)} (h : ss.Perm (d.map fun e => e.1.data.toList)) : ss.mergeSort (fun x y => decide (x ≤ y)) = d.map fun e => e.1.data.toList := by
  have hr : (d.map fun e => e.1.data.toList).Pairwise (fun x y => x ≤ y) := by
    rw [List.pairwise_map]
    refine List.Pairwise.imp (fun {a b} hab => ?_) hd.rise
    rw [ByteArray.toList_eq, ByteArray.toList_eq] at hab
    exact List.le_of_lt hab
  refine List.Perm.eq_of_pairwise (le := fun x y => x ≤ y) (fun a b _ _ h1 h2 => List.le_antisymm h1 h2) ?_ hr ((List.mergeSort_perm ss _).trans h)
  have := List.pairwise_mergeSort (le := fun x y : List UInt8 => decide (x ≤ y)) (fun a b c h1 h2 => by
    simp only [decide_eq_true_eq] at h1 h2 ⊢
    exact List.le_trans h1 h2) (fun a b => by
    simp only [Bool.or_eq_true, decide_eq_true_eq]
    exact List.le_total a b) ss
  exact List.Pairwise.imp (fun {a b} h => by simpa using h) this
set_option maxHeartbeats 1000000 in
set_option maxRecDepth 100000 in
theorem prising_any (b n : Nat) (d : Sf.Dir) (w : World) (h : IsMp dM w b n (Sf.dirF d)) (hd : Sf.OkDir d) (hl : d.length ≤ 64) : Calls Tryz.prog 59 #[.map (some b)] w (IsQ1 sK (d.map (·.1)) w) := by
  obtain ⟨D, h1, h2⟩ := h
  have hp := Tells.perm (K := dM) dM_ok h1 h2 (Sf.dirL d) (by rw [Sf.dirL_keys]; exact hd.nodup) (fun e he => by
    obtain ⟨x, hx, rfl⟩ := List.mem_map.1 he
    exact Sf.name_max (hd.name x hx)) (fun x _ y => Sf.dirF_iff hd x y)
  obtain ⟨es, rfl, hp⟩ := hp
  have hsz : Maps.size (DataW.map es : DataW Unit) = d.length := by rw [Maps.size_eq, hp.length_eq, List.length_map, Sf.dirL, List.length_map]
  have hkeys : (strKeys (DataW.map es : DataW Unit)).Perm (d.map fun e => e.1.data.toList) := by
    have := hp.map fun p : Lit × DataW Unit => strOf p.1
    rw [List.map_map, Sf.dirL, List.map_map] at this
    exact this
  have CS := Lib.hid (sorted_dir b n (DataW.map es) dM.read w h1 (by rw [hsz]; simp only [maxLen]; omega) (by rw [hsz]; omega))
  have CK := Lib.hid (keys_dir (some b) w)
  have HK := Lib.hid hkeys
  have HD := Lib.hid hd
  clear h1 h2 hp hsz hkeys hd
  refine (callsIn_wide (n := 6)).1 ?_
  have hfK : Fence.wide.fn 89 := trivial
  have hfS : Fence.wide.fn 88 := trivial
  refine callsIn_of_wp Tryz.func59 rfl trivial ?_ rfl
  simp only [Tryz.ntmps59, List.size_toArray, List.length_cons, List.length_nil, Nat.reduceAdd, Nat.reduceSub, Array.replicate_succ, Array.replicate_zero, List.push_toArray, List.append_toArray, List.nil_append, List.cons_append]
  gi_wp2_with (first
    | (gi_at_call 89; refine CK.out.mono ?_; rintro e w1 ⟨rfl, rfl⟩)
    | (gi_at_call 88; refine CS.out.mono ?_; rintro e w2 ⟨v, ss, rfl, hS, hrow, hb⟩))
  go_ret
  have hm := keys_sorted HD.out (hS.trans HK.out)
  rw [hm] at hrow
  have hlen : ss.length = (d.map (·.1)).length := by rw [(hS.trans HK.out).length_eq, List.length_map, List.length_map]
  have hflat : (d.map fun e => e.1.data.toList).map encStr = sK.flat (d.map (·.1)) := by
    clear hrow hlen hm CS CK HK hS HD
    induction d with
    | nil => rfl
    | cons e d ih =>
      rw [List.map_cons, List.map_cons, List.map_cons, flat_cons, ih (by simp at hl ⊢; omega)]
      rfl
  rw [hflat, hlen] at hrow
  have hb2 : Below w.heap.size w w2 := ((Below.refl _ w).alloc (Nat.le_refl _) _).trans (hb.mono (by simp))
  have hok : ∀ x ∈ d.map (·.1), sK.ok x := fun x hx => by
    obtain ⟨e, he, rfl⟩ := List.mem_map.1 hx
    exact Sf.name_max (HD.out.name e he)
  have hO := (OwnQ.of_row (K := sK) hok hrow).mono_ (base' := w.heap.size) (by simp)
  obtain ⟨A, c, e, _⟩ := hO.form_
  subst e
  exact ⟨A, c, rfl, hO, hb2⟩
end Go.Proofs.YtmcbjcbnckpfkaaGreat
namespace Go.Proofs.YtmcbjcbnckpfkaaGreat
open Go.RowKit
set_option linter.unusedVariables false
section
variable {w : World} {fp : Fp} {s : Nat} {t : Sf.St} {b : Nat} {who : Who} {bf bs bn : Nat} {vr : Sl} {ff : Int → Option RawX} {rn : List RawN}
set_option maxHeartbeats 1000000 in
set_option maxRecDepth 100000 in
theorem pnames_any (h : PDisk w fp t b) : Calls Tryz.prog 41 #[.pointer (some ⟨b, 0, none⟩)] w (IsQ1 sK (Sf.names t) w) := by
  obtain ⟨who, bf, bs, bn, vr, ff, rn, h⟩ := h
  have CR := Lib.hid (prefusal_disk h)
  have h5 : w.cell? ⟨b, 5, none⟩ = some (.map (some bn)) := h.cell rfl
  have CK := Lib.hid (prising_any bn _ t.seen w h.body.names h.good.seen (h.good.lens t.seen (.inr (.inl rfl))).1)
  clear h
  cases hd : t.dead with
  | true =>
    have HE : Hid (Sf.names t = []) := if_pos hd
    rw [hd] at CR
    clear hd CK
    go_enter Tryz.func41, Tryz.ntmps41
    go_wp2_with fail
    refine CR.out.mono ?_
    rintro e1 w1 ⟨rfl, rfl⟩
    clear CR
    go_wp2
    go_ret
    rw [HE.out]
    exact ⟨none, 0, rfl, OwnQ.nil_ _ _ _, Below.refl _ _⟩
  | false =>
    have HE : Hid (Sf.names t = t.seen.map (·.1)) := if_neg (by rw [hd]; simp)
    rw [hd] at CR
    rw [← HE.out] at CK
    clear hd
    go_enter Tryz.func41, Tryz.ntmps41
    go_wp2_with fail
    refine CR.out.mono ?_
    rintro e1 w1 ⟨rfl, rfl⟩
    clear CR
    go_wp2_with fail
    refine CK.out.mono ?_
    rintro e2 w2 ⟨A, c, rfl, ho, hb⟩
    have HO := Lib.hid ho
    have HB := Lib.hid hb
    clear CK ho hb
    go_wp2
    go_ret
    exact ⟨A, c, rfl, HO.out, HB.out⟩
set_option maxHeartbeats 1000000 in
set_option maxRecDepth 100000 in
/-- A copy of a directory: a new block. -/
theorem pmclone_any (b n : Nat) (f : ByteArray → Option Int) (w : World) (h : IsMp dM w b n f) : Calls Tryz.prog 56 #[.map (some b)] w (fun e w' => e = .returned (.map (some w.heap.size)) ∧ IsMp dM w' w.heap.size n f ∧ Below w.heap.size w w' ∧ w'.heap.size = w.heap.size + 1) := by
  obtain ⟨D, ⟨es, clock, hb, F, hs, hD⟩, hT⟩ := h
  have hq := fun w => eql_map_nil w 75 _ _ (some b) Tryz.underlying75
  go_enter Tryz.func56, Tryz.ntmps56
  go_wp2
  rw [run_callFunc_extern Tryz.func87 (by kernel_rfl) (by kernel_rfl) (by kernel_rfl) (e := Extern.MapsClone.clone) (by kernel_rfl), run_maps_clone_sl w 75 hb]
  simp only [Result.andThen]
  rw [Oper.upon_value]
  go_wp2
  rw [run_typeAssert_map_sl _ 75 20 _ _ _ Tryz.underlying75]
  simp only [Result.andThen]
  rw [Oper.upon_value]
  go_wp2
  go_ret
  exact ⟨rfl, ⟨D, ⟨es, clock, (MapKept.heap_alloc w _).1, F, hs, hD⟩, hT⟩, (Below.refl _ w).alloc (Nat.le_refl _) _, by simp⟩
end
end Go.Proofs.YtmcbjcbnckpfkaaGreat
namespace Go.Proofs.YtmcbjcbnckpfkaaGreat
open Go.RowKit
set_option linter.unusedVariables false
namespace Sf
/-- The entries that a range has passed. -/
def passed (d : Dir) (L : ByteArray → Bool) : Dir := d.filter fun e => !L e.1
theorem passed_none {d : Dir} {L : ByteArray → Bool} (h : ∀ e ∈ d, L e.1 = true) : passed d L = [] := by
  unfold passed
  rw [List.filter_eq_nil_iff]
  intro e he
  simp [h e he]
theorem passed_all {d : Dir} {L : ByteArray → Bool} (h : ∀ e ∈ d, L e.1 = false) : passed d L = d := by
  unfold passed
  rw [List.filter_eq_self]
  intro e he
  simp [h e he]
/-- One more. -/
theorem passed_step {d : Dir} (hd : (d.map (·.1)).Nodup) {L : ByteArray → Bool} {x : ByteArray} {n : Nat} (h : (x, n) ∈ d) (hL : L x = true) : (passed d (fun z => L z && !decide (z = x))).Perm ((x, n) :: passed d L) := by
  induction d with
  | nil => cases h
  | cons e d ih =>
    rw [List.map_cons, List.nodup_cons] at hd
    unfold passed at ih ⊢
    rcases List.mem_cons.1 h with h1 | h1
    · subst h1
      rw [List.filter_cons_of_pos (by simp), List.filter_cons_of_neg (by simp [hL])]
      refine List.Perm.cons _ ?_
      have : d.filter (fun e => !(L e.1 && !decide (e.1 = x))) = d.filter (fun e => !L e.1) := List.filter_congr fun e he => by
        have hne : e.1 ≠ x := fun e2 => hd.1 (List.mem_map.2 ⟨e, he, e2⟩)
        simp [hne]
      rw [this]
    · have hne : e.1 ≠ x := fun e2 => hd.1 (by rw [e2]; exact List.mem_map.2 ⟨_, h1, rfl⟩)
      by_cases he : L e.1 = true
      · rw [List.filter_cons_of_neg (by simp [he, hne]), List.filter_cons_of_neg (by simp [he])]
        exact ih hd.2 h1
      · have he' : L e.1 = false := by simpa using he
        rw [List.filter_cons_of_pos (by simp [he']), List.filter_cons_of_pos (by simp [he'])]
        exact ((ih hd.2 h1).cons e).trans (List.Perm.swap _ _ _)
theorem passed_sub (d : Dir) (L : ByteArray → Bool) : (passed d L).Sublist d := List.filter_sublist
theorem lens_cons (t : St) (e : ByteArray × Nat) (d : Dir) : lens t (e :: d) = len t e.2 + lens t d := by unfold lens; rw [List.map_cons, List.sum_cons]
theorem lens_bound {t : St} {m : Nat} : ∀ (d : Dir), (∀ e ∈ d, len t e.2 ≤ m) → lens t d ≤ d.length * m
  | [], _ => by simp [lens]
  | e :: d, h => by
    rw [lens_cons, List.length_cons, Nat.succ_mul]
    have := h e (List.mem_cons_self ..)
    have := lens_bound d (fun e he => h e (List.mem_cons_of_mem _ he))
    omega
end Sf
theorem file_now (u v x : Value) (w : World) : (Instr.field 87 (.agg #[u, v, x]) 2).run Tryz.prog w = .ok x w := by
  simp [Instr.field, go_sem, part, run_underlying Tryz.underlying87, asAgg]
theorem wpList_next_dir (w : World) {ops : Array Oper} {rest : List Oper} {o : Oper} {a : Act} {Q : Exit → Act → World → Prop} (hg : o.guard = none) (it : Operand) (hop : o.op = Op.next it false) (b r n : Nat) (f : ByteArray → Option Int) (L : ByteArray → Bool) (cnt : Nat) (hit : a.eval it = .pointer (some ⟨r, 0, none⟩)) (h : IsRg dM w b r n f L cnt)
    (hDone : (∀ x : ByteArray, x.size ≤ maxLen → L x = false) → wpList Tryz.prog ops Q rest (a.put o.dst (.tuple #[.bool false])) w)
    (hMore : ∀ (x : ByteArray) (c : Int) (w' : World) (cnt' : Nat), x.size ≤ maxLen → L x = true → f x = some c → IsRg dM w' b r n f (fun z => L z && !decide (z = x)) cnt' → cnt' < cnt → w.grownBy w' (some r) → w'.heap.size = w.heap.size →
      (Instr.entry (.pointer (some ⟨r, 0, none⟩))).run Tryz.prog w' = .ok (.tuple #[.string x, .int .i64 c]) w' → wpList Tryz.prog ops Q rest (a.put o.dst (.tuple #[.bool true, .string x, .int .i64 c])) w') :
    wpList Tryz.prog ops Q (o :: rest) a w := wpList_next_mp w dM dM_ok hg it hop b r n f L cnt hit h hDone hMore
section
variable {w : World} {fp : Fp} {s : Nat} {t : Sf.St} {b : Nat} {who : Who} {bf bs bn : Nat} {vr : Sl} {ff : Int → Option RawX} {rn : List RawN}
/-- A file that is reached. -/
theorem PHas.file_at (h : PHas w fp s t b who bf bs bn vr ff rn) {n : Nat} (hn : Reach t n) : ∃ x, ff (n : Int) = some x ∧ n < t.files.length ∧ HasX w who n x (Sf.fileAt t n) := by
  obtain ⟨x, hx⟩ := Option.isSome_iff_exists.1 (h.body.there n hn)
  obtain ⟨m, f, h1, h2, h3⟩ := h.body.file _ x hx
  have e : m = n := by omega
  subst e
  refine ⟨x, hx, (List.getElem?_eq_some_iff.1 h2).1, ?_⟩
  have : Sf.fileAt t m = f := by unfold Sf.fileAt; rw [List.getD_eq_getElem?_getD, h2]; rfl
  rw [this]
  exact h3
theorem HasX.len_le {i : Nat} {x : RawX} {f : Sf.File} (h : HasX w who i x f) : (Sf.now f).length ≤ 1048576 := by have := h.ok.len f.row.length (Nat.le_refl _); rwa [Sf.bytes_all] at this
/-- A file's value, looked up in the map. -/
theorem look_file {w' : World} {k : Nat} (hm : IsMp fM w' bf k ff) {n : Nat} {x : RawX} (hx : ff (n : Int) = some x) (hn : n < 9223372036854775807) : (Instr.lookup 77 (.map (some bf)) (.int .i64 (n : Nat)) false).run Tryz.prog w' = .ok (xV x) w' := by
  have := hm.look (x := (n : Int)) (WalkArith.wf_i64 (by omega))
  rw [hx] at this
  exact this
set_option maxHeartbeats 4000000 in
set_option maxRecDepth 100000 in
theorem pused_disk (h : PHas w fp s t b who bf bs bn vr ff rn) (hs4 : s ≤ 4) : Calls Tryz.prog 42 #[.pointer (some ⟨b, 0, none⟩)] w (IsNum (Sf.used t) w) := by
  have CR := Lib.hid (prefusal_disk h)
  cases hd : t.dead with
  | true =>
    have HE : Hid (Sf.used t = 0) := if_pos hd
    rw [hd] at CR
    clear h hd
    go_enter Tryz.func42, Tryz.ntmps42
    go_wp2_with fail
    refine CR.out.mono ?_
    rintro e1 w1 ⟨rfl, rfl⟩
    clear CR
    go_wp2
    go_ret
    exact ⟨by rw [HE.out]; rfl, Below.refl _ _⟩
  | false =>
    have HE : Hid (Sf.used t = Sf.lens t t.seen) := if_neg (by rw [hd]; simp)
    rw [hd] at CR
    have h5 : w.cell? ⟨b, 5, none⟩ = some (.map (some bn)) := h.cell rfl
    have h1 : w.cell? ⟨b, 1, none⟩ = some (.map (some bf)) := h.cell rfl
    have hb : b < w.heap.size := h.lt b (by rw [h.mine]; rfl)
    have hbf := h.body.files.lt_
    have hbn := h.body.names.lt_
    obtain ⟨k, hk⟩ : ∃ k, 64 + t.acts + s = k := ⟨_, rfl⟩
    have HN := h.body.names
    rw [hk] at HN
    have HNM := Lib.hid HN
    have HFM := Lib.hid h.body.files
    have HOK := Lib.hid h.good.seen
    have HL := Lib.hid (h.good.lens t.seen (.inr (.inl rfl)))
    have HFA : Hid (∀ e ∈ t.seen, ∃ x, ff (e.2 : Int) = some x ∧ e.2 < t.files.length ∧ x.now.n = Sf.len t e.2 ∧ Sf.len t e.2 ≤ 1048576) := fun e he => by
      obtain ⟨x, h1, h2, h3⟩ := h.file_at (n := e.2) ⟨t.seen, .inr (.inl rfl), e, he, rfl⟩
      exact ⟨x, h1, h2, (h3.now.form_.len_).1, h3.len_le⟩
    have HFL : Hid (t.files.length ≤ 9223372036854775807) := by have := h.good.files; have := h.good.acts; unfold Hid; omega
    have HB : Hid (b < w.heap.size ∧ bf < w.heap.size ∧ bn < w.heap.size) := ⟨hb, hbf, hbn⟩
    have HC : Hid (∀ w', Below w.heap.size w w' → w'.cell? ⟨b, 1, none⟩ = some (.map (some bf)) ∧ IsMp fM w' bf (64 + t.acts + s) ff) := fun w' hb' => ⟨(hb'.cell (p := ⟨b, 1, none⟩) hb).trans h1, h.body.files.of_block (hb'.block bf hbf)⟩
    clear h hd hb hbf hbn HN hk h1
    go_enter Tryz.func42, Tryz.ntmps42
    go_wp2_with fail
    refine CR.out.mono ?_
    rintro e1 w1 ⟨rfl, rfl⟩
    clear CR
    go_wp2_with (at_range; refine wpList_range_mp _ dM rfl _ rfl bn k _ rfl HNM.out ?_; intro w0 cnt0 hrg0 hcnt hg0 hs0)
    go_frame
    have HB0 : Hid (Below w.heap.size w w0) := (Below.refl w.heap.size w).grown hg0 (Nat.le_refl _) (fun j hj => by cases hj)
    have HR0 := Lib.hid hrg0
    clear hrg0 hg0 hs0 hcnt h5
    go_loopw [3] (fun u wr => ∃ (L : ByteArray → Bool) (cnt : Nat), Hid (IsRg dM wr bn w.heap.size k (Sf.dirF t.seen) L cnt) ∧ u = .int .i64 (Sf.lens t (Sf.passed t.seen L) : Nat) ∧ Hid (Below w.heap.size w wr)) (fun _ wr => wr.rangeLeft bn w.heap.size)
    case atStart =>
      refine ⟨_, cnt0, HR0.out, ?_, HB0.out⟩
      rw [Sf.passed_none (fun e he => by
        unfold Sf.dirF
        rw [HOK.out.find.2 (show (e.1, e.2) ∈ t.seen from he)]
        rfl)]
      rfl
    case round =>
      obtain ⟨L, cnt, HRG, rfl, HBW⟩ := hrel
      clear HR0 HB0
      go_wp2_with (at_next; refine wpList_next_dir _ rfl _ rfl bn w.heap.size k _ L cnt rfl HRG.out ?_ ?_)
      · intro hl0
        have HP : Hid (Sf.passed t.seen L = t.seen) := Sf.passed_all fun e he => hl0 e.1 (Sf.name_max (HOK.out.name e he))
        clear hl0
        go_wp2
        go_ret
        exact ⟨by rw [HE.out, HP.out]; rfl, HBW.out⟩
      · intro x c w1 cnt1 hx hLx hfx hrg1 hlt hg1 hs1 hen
        obtain ⟨n, hfd, rfl⟩ : ∃ n : Nat, Sf.find t.seen x = some n ∧ (n : Int) = c := by
          unfold Sf.dirF at hfx
          obtain ⟨n, h1, h2⟩ := Option.map_eq_some_iff.1 hfx
          exact ⟨n, h1, h2⟩
        have hm := HOK.out.find.1 hfd
        obtain ⟨y, hy, hyl, hyn, hym⟩ := HFA.out _ hm
        simp only at hy hyl hyn hym
        have hyi : n < 9223372036854775807 := Nat.lt_of_lt_of_le hyl HFL.out
        have hb1 : Below w.heap.size w w1 := HBW.out.grown hg1 HBW.out.size (fun j hj => by rw [← Option.some.inj hj]; exact Nat.le_refl _)
        obtain ⟨c1, hmp⟩ := HC.out w1 hb1
        have hlk := look_file hmp hy hyi
        have hst := Sf.passed_step HOK.out.nodup hm hLx
        have hle : Sf.lens t (Sf.passed t.seen L) ≤ 67108864 := by
          have h1 := Sf.lens_bound (t := t) (m := 1048576) (Sf.passed t.seen L) (fun e he => by
            obtain ⟨_, _, _, _, h⟩ := HFA.out e ((Sf.passed_sub _ _).subset he)
            exact h)
          have h2 := (Sf.passed_sub t.seen L).length_le
          have h3 := HL.out.1
          have h4 : (Sf.passed t.seen L).length * 1048576 ≤ 64 * 1048576 := Nat.mul_le_mul_right _ (by omega)
          omega
        have HSUM : Hid (Sf.lens t (Sf.passed t.seen (fun z => L z && !decide (z = x))) = Sf.lens t (Sf.passed t.seen L) + Sf.len t n) := by
          unfold Hid
          rw [Sf.lens_perm hst, Sf.lens_cons, Nat.add_comm]
        obtain ⟨m, hmm⟩ : ∃ m, Sf.lens t (Sf.passed t.seen L) = m := ⟨_, rfl⟩
        obtain ⟨q, hq⟩ : ∃ q, Sf.len t n = q := ⟨_, rfl⟩
        rw [hmm] at HSUM hle
        rw [hmm]
        rw [hq] at HSUM hyn hym
        have wsum : IntKind.i64.wrap ((m : Int) + (q : Int)) = (m : Int) + (q : Int) := by rw [IntKind.wrap_i64]; omega
        obtain ⟨⟨a1, a2, a3⟩, ⟨a4, a5, a6⟩, ⟨a7, a8, a9⟩⟩ := y
        simp only at hyn
        subst hyn
        change (Instr.lookup 77 (.map (some bf)) (.int .i64 (n : Nat)) false).run Tryz.prog w1 = .ok (.agg #[.slice a1 a2 a3, .slice a4 a5 a6, .slice a7 a8 a9]) w1 at hlk
        have HRG1 := Lib.hid hrg1
        have HB1 := Lib.hid hb1
        have HLT := Lib.hid hlt
        have HLE := Lib.hid (HRG.out.left_eq)
        clear hmm hq hle hst hmp hb1 hg1 hs1 hrg1 hlt hm hy hfd hfx hyl HRG HBW hLx hx
        have hfd := fun w => file_now (.slice a1 a2 a3) (.slice a4 a5 a6) (.slice a7 a8 a9) w
        go_wp2
        go_roundw
        case rel => exact ⟨_, cnt1, HRG1.out, by rw [HSUM.out]; go_num, HB1.out⟩
        case measure => rw [HRG1.out.left_eq, HLE.out]; exact HLT.out
theorem pused_any (h : PDisk w fp t b) : Calls Tryz.prog 42 #[.pointer (some ⟨b, 0, none⟩)] w (IsNum (Sf.used t) w) := by
  obtain ⟨who, bf, bs, bn, vr, ff, rn, h⟩ := h
  exact pused_disk h (Nat.zero_le _)
end
end Go.Proofs.YtmcbjcbnckpfkaaGreat
