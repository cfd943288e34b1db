/-
  VpAddP: vocab.seen's add.
  VpAdd: vocab.seen's add, allBytes; vocab.newSeen; slices.Contains and Index of bools.
  VpNew: vocab.newSeen.
  VpCheck: vocab.Check, mayBe.
-/
import Derived.Test.YtkialijipcbgkaaPk11
import Derived.Test.YtkialijipcbgkaaPk07
import Derived.Test.YtkialijipcbgkaaPk04
namespace Go.Proofs.Ytkialijipcbgkaa
open Go.RowKit Go.Maps
set_option linter.unusedVariables false

set_option maxHeartbeats 1000000 in
theorem padd_any {w : World} {sb base : Nat} {D : List Vo.Pc} (h : SeenD w sb base D) (p : Vo.Pc) (hp : PcOk p) (hD : D.length ≤ 4096) (hg : Vo.Good D) (hb : base ≤ w.heap.size) :
    Calls Try.prog 107 #[.pointer (some ⟨sb, 0, none⟩), pcV p] w (IsAdd sb base D p w) := by
  obtain ⟨W, hW⟩ : ∃ W, w.alloc (.cells #[.bool p.join, .int .u8 (p.byte : Nat), .int .i64 p.left, .int .i64 p.right, .int .u32 (p.rank : Nat)] 85) = W := ⟨_, rfl⟩
  obtain ⟨⟨_, hx⟩, hbx⟩ := pboxed hW
  have c0 := hx 0 _ rfl
  have c1 := hx 1 _ rfl
  have c2 := hx 2 _ rfl
  have c3 := hx 3 _ rfl
  have c4 := hx 4 _ rfl
  have hS := h.to_ hbx
  have HB := Lib.hid (hbx.mono hb)
  have hbW : base ≤ W.heap.size := Nat.le_trans hb hbx.size
  have hfin : ∀ e w', IsAdd sb base D p W e w' → IsAdd sb base D p w e w' := fun e w' h => ⟨h.1, h.2.1, HB.out.trans h.2.2⟩
  have HF := Lib.hid hfin
  cases hj : p.join with
  | true =>
    have HC := Lib.hid (paddJoin_any hS p hp hj hD hg hbW)
    unfold pcV at HC ⊢
    rw [hj] at c0 hW HC ⊢
    clear hx hbx hfin hS h hj
    go_enter Try.func107, Try.ntmps107
    go_wp2_with (fail)
    refine HC.out.mono ?_
    rintro e w' h
    have HE := Lib.hid h
    obtain ⟨rfl, _⟩ := h
    clear HC
    go_wp2
    go_ret
    exact HF.out _ _ HE.out
  | false =>
    have HC := Lib.hid (paddByte_any hS p hp hj hD hbW)
    unfold pcV at HC ⊢
    rw [hj] at c0 hW HC ⊢
    clear hx hbx hfin hS h hj
    go_enter Try.func107, Try.ntmps107
    go_wp2_with (fail)
    refine HC.out.mono ?_
    rintro e w' h
    have HE := Lib.hid h
    obtain ⟨rfl, _⟩ := h
    clear HC
    go_wp2
    go_ret
    exact HF.out _ _ HE.out

end Go.Proofs.Ytkialijipcbgkaa
namespace Go.Proofs.Ytkialijipcbgkaa
open Go.RowKit Go.Maps
set_option linter.unusedVariables false

set_option maxHeartbeats 2000000 in
/-- slices.Index over bools, for false. -/
theorem pindex_bools (bs : List Bool) (b off : Nat) (w : World) (hl : bs.length = 256) (hc : ∀ j t, bs[j]? = some t → w.cell? ⟨b, off + j, none⟩ = some (.bool t)) :
    Calls Try.prog 123 #[.slice (some ⟨b, off, none⟩) 256 256, .bool false] w (fun e w' => (∃ x : Int, e = .returned (.int .i64 x) ∧ (0 ≤ x ↔ false ∈ bs)) ∧ w' = w) := by
  go_enter Try.func123, Try.ntmps123
  go_wp2
  go_loop [5, 8] (fun _ s8 => ∃ k : Nat, k ≤ 256 ∧ s8 = .int .i64 k ∧ Hid (∀ j, j < k → bs[j]? = some true)) (fun _ s8 => 256 - (intOf s8).toNat)
  case atStart => exact ⟨0, by omega, rfl, fun j hj => by omega⟩
  case round =>
    obtain ⟨k, hk, rfl, HA⟩ := hrel
    by_cases hlt : k < 256
    · obtain ⟨t, ht⟩ : ∃ t, bs[k]? = some t := ⟨bs[k]'(by omega), List.getElem?_eq_getElem (by omega)⟩
      have hcell := hc k t ht
      have hki : (k : Int) < 256 := by omega
      cases t with
      | false =>
        have HI : Hid (false ∈ bs) := List.mem_of_getElem? ht
        clear hc ht
        go_wp2
        go_ret
        exact ⟨⟨k, rfl, ⟨fun _ => HI.out, fun _ => by omega⟩⟩, rfl⟩
      | true =>
        have HK : Hid (∀ j, j < k + 1 → bs[j]? = some true) := fun j hj => by
          rcases Nat.lt_or_ge j k with h | h
          · exact HA.out j h
          · obtain rfl : j = k := by omega
            exact ht
        have HC := Lib.hid hc
        clear hc ht
        go_wp2
        go_round
        case rel => exact ⟨k + 1, by omega, by go_num, HK.out⟩
        case measure => simp [intOf]; omega
    · obtain rfl : k = 256 := by omega
      have HI : Hid (¬ false ∈ bs) := fun hm => by
        obtain ⟨j, hj⟩ := List.getElem?_of_mem hm
        have hlt := (List.getElem?_eq_some_iff.1 hj).1
        have := HA.out j (by omega)
        rw [hj] at this
        cases this
      clear hc
      go_wp2
      go_ret
      exact ⟨⟨-1, rfl, ⟨fun h => by omega, fun h => absurd h HI.out⟩⟩, rfl⟩
theorem pcontains_bools (bs : List Bool) (b off : Nat) (w : World) (hl : bs.length = 256) (hc : ∀ j t, bs[j]? = some t → w.cell? ⟨b, off + j, none⟩ = some (.bool t)) :
    Calls Try.prog 118 #[.slice (some ⟨b, off, none⟩) 256 256, .bool false] w (fun e w' => e = .returned (.bool (bs.contains false)) ∧ w' = w) := by
  have H := Lib.hid (pindex_bools bs b off w hl hc)
  clear hc
  obtain ⟨r, hr⟩ : ∃ r, bs.contains false = r := ⟨_, rfl⟩
  have HR : Hid (r = true ↔ false ∈ bs) := by unfold Hid; rw [← hr]; exact List.elem_iff
  rw [hr]
  clear hr
  go_enter Try.func118, Try.ntmps118
  go_wp2_with (fail)
  refine H.out.mono ?_
  rintro e w' ⟨⟨x, rfl, hx⟩, rfl⟩
  have HX := Lib.hid hx
  clear hx H
  go_wp2
  go_ret
  refine ⟨?_, rfl⟩
  have h1 := HX.out
  have h2 := HR.out
  have h3 : decide (x ≥ 0) = r := by
    rw [Bool.eq_iff_iff, decide_eq_true_eq, h2, ← h1]
  rw [← h3]
  rfl
theorem pallBytes_any {w : World} {sb base : Nat} {D : List Vo.Pc} (h : SeenD w sb base D) :
    Calls Try.prog 108 #[.pointer (some ⟨sb, 0, none⟩)] w (fun e w' => e = .returned (.bool (!(Vo.bits D).contains false)) ∧ w' = w) := by
  obtain ⟨b1, b2, v, h⟩ := h
  have H := Lib.hid (pcontains_bools (Vo.bits D) sb 0 w h.len (fun j t ht => by rw [Nat.zero_add]; exact h.bool_ ht))
  obtain ⟨r, hr⟩ : ∃ r, (Vo.bits D).contains false = r := ⟨_, rfl⟩
  rw [hr] at H ⊢
  clear h hr
  go_enter Try.func108, Try.ntmps108
  go_wp2_with (fail)
  refine H.out.mono ?_
  rintro e w' ⟨rfl, rfl⟩
  clear H
  go_wp2
  go_ret
  exact ⟨rfl, rfl⟩
end Go.Proofs.Ytkialijipcbgkaa
namespace Go.Proofs.Ytkialijipcbgkaa
open Go.RowKit Go.Maps
set_option linter.unusedVariables false

theorem run_makeMap_hint {t k e : TypeId} (ht : Try.prog.underlying t = some (.map k e)) (q : IntKind) (n : Int) (w : World) : (Instr.makeMap t (some (.int q n))).run Try.prog w = .ok (.map (some w.heap.size)) (w.alloc (.map #[] 0)) := by
  simp [Instr.makeMap, run_underlying ht, asInt, asIntOf, Result.andThen]
theorem run_make_eq {P : Program} {α : Type} (K : El P α) (kl kc : IntKind) (m n : Nat) (hmn : m ≤ n) (hby : K.bytes * n ≤ 281474976710656) (h63 : n ≤ maxLen) (w : World) :
    (Instr.makeSlice K.s (.int kl (m : Int)) (.int kc (n : Int))).run P w = .ok (.slice (some ⟨w.heap.size, 0, none⟩) m n) (w.alloc (.cells (K.flat (List.replicate n K.z)).toArray K.e)) := by
  obtain ⟨i0, hi, hz0, hz1, hz2⟩ := info_parts K.info
  have h63' : (n : Int) ≤ 9223372036854775807 := by simp only [maxLen] at h63; omega
  have hb' : (i0.bytes : Int) * (n : Int) ≤ 281474976710656 := by
    rw [hz2]
    have h : ((K.bytes * n : Nat) : Int) ≤ 281474976710656 := by omega
    rwa [Int.natCast_mul] at h
  have hr := run_make (P := P) w K.s K.e i0 _ K.under hi hz0 kl kc m n (by omega) (by omega) hb' h63'
  simp only [Int.toNat_natCast] at hr
  rw [hr, hz1, made_cells]
theorem IsMp.fresh {P : Program} {κ β : Type} (K : MpK P κ β) {w' : World} {b : Nat} (h : w'.heap[b]? = some (.map #[] 0)) : IsMp K w' b 0 (fun _ => none) := by
  obtain ⟨D, ⟨es, clock, hb, F, hs, hD⟩, hx⟩ := IsMp.made K w'
  rw [heap_alloc_new] at hb
  cases hb
  exact ⟨D, ⟨#[], 0, h, F, hs, hD⟩, hx⟩
theorem zero_seen (b1 b2 : Nat) (v : Value) : ((Try.zeroCells163.setIfInBounds 256 (.map (some b1))).setIfInBounds 257 (.map (some b2))).setIfInBounds 258 v = (seenC (List.replicate 256 false) b1 b2 v).toArray := by
  have h : Try.zeroCells163 = (List.replicate 256 (Value.bool false) ++ [Value.map none, Value.map none, Value.slice none 0 0]).toArray := by kernel_rfl
  rw [h, List.setIfInBounds_toArray, List.setIfInBounds_toArray, List.setIfInBounds_toArray]
  refine congrArg List.toArray ?_
  unfold seenC
  rw [List.map_replicate]
  have hl : (List.replicate 256 (Value.bool false)).length = 256 := List.length_replicate
  generalize List.replicate 256 (Value.bool false) = l at hl ⊢
  rw [List.set_append_right _ _ (by omega), List.set_append_right _ _ (by omega), List.set_append_right _ _ (by omega), hl]
  rfl
theorem seen_new {w' : World} {base sb b1 b2 g n : Nat} {cs : Array Value} (hcs : (iK.flat (List.replicate n iK.z)).toArray = cs) (hn : n ≤ 4096)
    (h0 : w'.heap[sb]? = some (.cells (((Try.zeroCells163.setIfInBounds 256 (.map (some b1))).setIfInBounds 257 (.map (some b2))).setIfInBounds 258 (.slice (some ⟨g, 0, none⟩) 0 n)) 163 (0, 0)))
    (h1 : w'.heap[b1]? = some (.map #[] 0)) (h2 : w'.heap[b2]? = some (.map #[] 0)) (h3 : w'.heap[g]? = some (.cells cs 3 (0, 0))) (l0 : base ≤ sb) (l1 : base ≤ b1) (l2 : base ≤ b2) (l3 : base ≤ g) (d12 : b1 ≠ b2) (dg : g ≠ sb) : SeenD w' sb base [] := by
  rw [zero_seen] at h0
  have e1 : Vo.inR [] = fun _ => none := by funext r; simp [Vo.inR]
  have e2 : Vo.inP [] = fun _ => none := by funext r; simp [Vo.inP]
  have e3 : Vo.bits [] = List.replicate 256 false := by decide +kernel
  refine ⟨b1, b2, .slice (some ⟨g, 0, none⟩) 0 n, ?_⟩
  rw [e1, e2, e3]
  refine ⟨h0, List.length_replicate, ?_, .fresh mpR h1, .fresh mpP h2, fun e => dg (Option.some.inj e), d12, l0, l1, l2⟩
  refine ⟨fun x hx => (by cases hx), .inr ⟨g, List.replicate n iK.z, by simp [Vo.sizes, Vo.texts], l3, fun y hy => by rw [List.eq_of_mem_replicate hy]; exact iK.okz, by simp [Vo.sizes, Vo.texts, maxLen] <;> omega, ?_⟩⟩
  show w'.heap[g]? = some (.cells (iK.flat ([] ++ List.replicate n iK.z)).toArray _ _)
  rw [List.nil_append, hcs]
  exact h3
section
variable (w : World) (a b c d : Obj)
theorem four_a : ((((w.alloc a).alloc b).alloc c).alloc d).drew.heap[w.heap.size]? = some a := by
  show ((((w.alloc a).alloc b).alloc c).alloc d).heap[w.heap.size]? = some a
  rw [heap_alloc_old _ _ (by simp <;> omega), heap_alloc_old _ _ (by simp <;> omega), heap_alloc_old _ _ (by simp)]
  exact heap_alloc_new w a
theorem four_b : ((((w.alloc a).alloc b).alloc c).alloc d).drew.heap[w.heap.size + 1]? = some b := by
  show ((((w.alloc a).alloc b).alloc c).alloc d).heap[w.heap.size + 1]? = some b
  rw [heap_alloc_old _ _ (by simp <;> omega), heap_alloc_old _ _ (by simp)]
  have := heap_alloc_new (w.alloc a) b
  simpa using this
theorem four_c : ((((w.alloc a).alloc b).alloc c).alloc d).drew.heap[w.heap.size + 1 + 1]? = some c := by
  show ((((w.alloc a).alloc b).alloc c).alloc d).heap[w.heap.size + 1 + 1]? = some c
  rw [heap_alloc_old _ _ (by simp)]
  have := heap_alloc_new ((w.alloc a).alloc b) c
  simpa using this
theorem four_d : ((((w.alloc a).alloc b).alloc c).alloc d).drew.heap[w.heap.size + 1 + 1 + 1]? = some d := by
  show ((((w.alloc a).alloc b).alloc c).alloc d).heap[w.heap.size + 1 + 1 + 1]? = some d
  have := heap_alloc_new (((w.alloc a).alloc b).alloc c) d
  simpa using this
theorem four_below : Below w.heap.size w ((((w.alloc a).alloc b).alloc c).alloc d).drew :=
  (((((Below.refl _ _).alloc (Nat.le_refl _) _).alloc (by simp) _).alloc (by simp <;> omega) _).alloc (by simp <;> omega) _).drew
end

set_option maxHeartbeats 4000000 in
theorem pnewSeen_any (w : World) (n : Nat) (hn : n ≤ 4096) :
    Calls Try.prog 106 #[.int .i64 (n : Nat)] w (fun e w' => ∃ sb, e = .returned (.pointer (some ⟨sb, 0, none⟩)) ∧ SeenD w' sb w.heap.size [] ∧ Below w.heap.size w w') := by
  have hm1 := fun q n w => run_makeMap_hint Try.underlying160 q n w
  have hm2 := fun q n w => run_makeMap_hint Try.underlying161 q n w
  have hm3 := fun w => run_make_eq (P := Try.prog) iK .i64 .i64 0 n (Nat.zero_le _) (by show 8 * n ≤ _; omega) (by simp only [maxLen]; omega) w
  obtain ⟨cs, hcs⟩ : ∃ cs, (iK.flat (List.replicate n iK.z)).toArray = cs := ⟨_, rfl⟩
  rw [hcs] at hm3
  change ∀ w, (Instr.makeSlice 25 (.int .i64 0) (.int .i64 (n : Nat))).run Try.prog w = .ok (.slice (some ⟨w.heap.size, 0, none⟩) 0 n) (w.alloc (.cells cs 3)) at hm3
  go_enter Try.func106, Try.ntmps106
  go_wp2
  all_goals go_region
  all_goals go_wp2
  all_goals go_ret
  all_goals exact ⟨_, rfl, seen_new hcs hn (four_d _ _ _ _ _) (by first | exact four_a _ _ _ _ _ | exact four_b _ _ _ _ _ | exact four_c _ _ _ _ _) (by first | exact four_a _ _ _ _ _ | exact four_b _ _ _ _ _ | exact four_c _ _ _ _ _) (by first | exact four_a _ _ _ _ _ | exact four_b _ _ _ _ _ | exact four_c _ _ _ _ _) (by omega) (by omega) (by omega) (by omega) (by omega) (by omega), four_below _ _ _ _ _⟩
end Go.Proofs.Ytkialijipcbgkaa
namespace Go.Proofs.Ytkialijipcbgkaa
open Go.RowKit
set_option linter.unusedVariables false

namespace Vo
theorem bits_all {P : List Pc} (hg : Good P) (hok : ∀ q ∈ P, q.byte < 256) : (bits P).contains false = decide (bytesOf P < 256) := by
  have hlen : (theBytes P).length = bytesOf P := by simp [theBytes, bytesOf]
  rw [Bool.eq_iff_iff, decide_eq_true_eq, List.elem_iff]
  constructor
  · intro h
    obtain ⟨b, hb⟩ := List.getElem?_of_mem h
    have hb2 : b < 256 := by have := (List.getElem?_eq_some_iff.1 hb).1; rwa [bits_len] at this
    rw [bits_at hb2] at hb
    have hno : b ∉ theBytes P := fun hm => by
      obtain ⟨q, hq, hj, e⟩ := theBytes_mem.1 hm
      have : P.any (fun q => !q.join && q.byte == b) = true := List.any_eq_true.2 ⟨q, hq, by simp [hj, e]⟩
      rw [this] at hb
      cases hb
    have := List.Nodup.length_le_of_subset (l₁ := b :: theBytes P) (l₂ := List.range 256) (List.nodup_cons.2 ⟨hno, theBytes_nodup hg⟩) (by
      intro y hy
      rcases List.mem_cons.1 hy with rfl | hy
      · exact List.mem_range.2 hb2
      · obtain ⟨q, hq, _, rfl⟩ := theBytes_mem.1 hy
        exact List.mem_range.2 (hok q hq))
    rw [List.length_range, List.length_cons] at this
    omega
  · intro h
    apply Decidable.byContradiction
    intro hno
    have := List.Nodup.length_le_of_subset (l₁ := List.range 256) (l₂ := theBytes P) List.nodup_range (by
      intro b hb
      have hb2 := List.mem_range.1 hb
      have hx := bits_at (D := P) hb2
      cases hany : P.any (fun q => !q.join && q.byte == b) with
      | false => rw [hany] at hx; exact absurd (List.mem_of_getElem? hx) hno
      | true =>
        obtain ⟨q, hq, hs⟩ := List.any_eq_true.1 hany
        simp at hs
        exact theBytes_mem.2 ⟨q, hq, by simpa using hs.1, hs.2⟩)
    rw [List.length_range] at this
    omega
end Vo

set_option maxRecDepth 100000 in
set_option maxHeartbeats 4000000 in
theorem pcheck_any (P : List Vo.Pc) (v : Value) (B : Nat) (w : World) (hv : Lv pK w B v P) (hB : B ≤ w.heap.size) :
    Calls Try.prog 98 #[.agg #[v]] w (IsCheck (Vo.check P) w) := by
  have hv0 := hv
  obtain ⟨A, c, rfl, h1, h2, _, _⟩ := hv
  have hl : P.length ≤ 9223372036854775807 := by simp only [maxLen] at h2; omega
  clear h1 h2
  obtain ⟨W, hW⟩ : ∃ W, w.alloc (.cells #[.slice A P.length c] 41) = W := ⟨_, rfl⟩
  obtain ⟨d0, hsz, hb⟩ := boxed hW
  have HB0 := Lib.hid hb
  by_cases hbig : 4096 < P.length
  · have HX : Hid (Vo.check P = (3, 0)) := by unfold Hid Vo.check; rw [if_pos hbig]
    clear hsz hb hv0
    go_enter Try.func98, Try.ntmps98
    go_wp2
    go_ret2
    exact ⟨by rw [HX.out]; rfl, HB0.out⟩
  · have HBig := Lib.hid hbig
    have hle : P.length ≤ 4096 := by omega
    have HN := Lib.hid (pnewSeen_any W P.length hle)
    have HV0 := Lib.hid hv0
    have hpb : w.heap.size < W.heap.size := by omega
    clear hbig hb hv0
    go_enter Try.func98, Try.ntmps98
    go_wp2_with (fail)
    refine HN.out.mono ?_
    rintro e w1 ⟨sb, rfl, hS1, hb1⟩
    have HS1 := Lib.hid hS1
    have HB1 := Lib.hid (HB0.out.trans (hb1.mono HB0.out.size))
    have d1 : w1.cell? ⟨w.heap.size, 0, none⟩ = some (.slice A P.length c) := (hb1.cell (p := ⟨w.heap.size, 0, none⟩) hpb).trans d0
    have HZ1 : Hid (W.heap.size ≤ w1.heap.size) := hb1.size
    clear hS1 hb1 HN d0
    go_wp2
    go_loopw [5, 6, 7, 19] (fun _ _ _ i wr => ∃ k : Nat, k ≤ P.length ∧ i = .int .i64 k ∧ Hid (Vo.Good (P.take k)) ∧ Hid (Vo.scan [] P = Vo.scan (P.take k) (P.drop k)) ∧ Hid (SeenD wr sb W.heap.size (P.take k)) ∧ Below W.heap.size w1 wr) (fun _ _ _ i _ => P.length - (intOf i).toNat)
    case atStart => exact ⟨0, by omega, rfl, by intro i p h; simp at h, rfl, HS1.out, Below.refl _ _⟩
    case round =>
      obtain ⟨k, hk, rfl, HG, HSc, HS, hbr⟩ := hrel
      have HBr := Lib.hid hbr
      have HBw := Lib.hid (HB1.out.trans (hbr.mono HB0.out.size))
      have hdr : wr.cell? ⟨w.heap.size, 0, none⟩ = some (.slice A P.length c) := (hbr.cell (p := ⟨w.heap.size, 0, none⟩) hpb).trans d1
      have hsr : W.heap.size ≤ wr.heap.size := Nat.le_trans HZ1.out hbr.size
      have HVr := Lib.hid (HV0.out.below_ HBw.out hB)
      clear HS1 hbr d1
      by_cases hlt : k < P.length
      · obtain ⟨b, off, p, rfl, hbB, hpok, hq, c0, c1, c2, c3, c4⟩ := HVr.out.piece_ hlt
        have hki : (k : Int) < (P.length : Int) := by omega
        obtain ⟨wp, hwp⟩ : ∃ wp, wr.alloc (.cells #[.bool p.join, .int .u8 (p.byte : Nat), .int .i64 p.left, .int .i64 p.right, .int .u32 (p.rank : Nat)] 85) = wp := ⟨_, rfl⟩
        obtain ⟨⟨_, hx⟩, hbx⟩ := pboxed hwp
        have x0 := hx 0 _ rfl
        have x1 := hx 1 _ rfl
        have x2 := hx 2 _ rfl
        have x3 := hx 3 _ rfl
        have x4 := hx 4 _ rfl
        have HBp := Lib.hid (HBr.out.trans (hbx.mono hsr))
        have HBwp := Lib.hid (HBw.out.trans (hbx.mono (Nat.le_trans HB0.out.size hsr)))
        have HC := Lib.hid (padd_any (HS.out.to_ hbx) p hpok (by rw [List.length_take]; omega) HG.out (Nat.le_trans hsr hbx.size))
        unfold pcV at HC
        clear hx hbx
        by_cases he : Vo.errAt (P.take k) p = 0
        · have HG2 := Lib.hid (Vo.good_snoc HG.out hq he)
          have HSc2 : Hid (Vo.scan [] P = Vo.scan (P.take (k + 1)) (P.drop (k + 1))) := by unfold Hid; rw [HSc.out, Vo.scan_step hq, if_pos he]
          have HQ := Lib.hid (take_snoc hq)
          have HE := Lib.hid he
          clear he hq HG HSc
          go_wp2_with (fail)
          refine (HC.out).mono ?_
          rintro e w2 ⟨he, hs, hb⟩
          rw [HE.out] at he
          obtain rfl := he
          have HS2 : Hid (SeenD w2 sb W.heap.size (P.take (k + 1))) := by unfold Hid; rw [HQ.out]; exact hs HE.out
          have HB2 := Lib.hid (HBp.out.trans hb)
          clear hs hb HC
          go_wp2
          go_roundw
          case rel => exact ⟨k + 1, hlt, by go_num, HG2.out, HSc2.out, HS2.out, HB2.out⟩
          case measure => simp [intOf]; omega
        · obtain ⟨E, hE⟩ : ∃ E, Vo.errAt (P.take k) p = E := ⟨_, rfl⟩
          have HX : Hid (Vo.check P = (E, k)) := Vo.check_scan HBig.out (by rw [HSc.out, Vo.scan_step hq, if_neg he, hE]) (by rw [← hE]; exact he)
          have HE := Lib.hid hE
          rw [hE] at he
          have heb : ((E : Int) != 0) = true := by rw [bne_iff_ne]; omega
          clear he hE hq HG HSc
          go_wp2_with (fail)
          refine (HC.out).mono ?_
          rintro e w2 ⟨he, _, hb⟩
          rw [HE.out] at he
          obtain rfl := he
          have HB2 := Lib.hid (HBwp.out.trans (hb.mono HB0.out.size))
          clear hb HC
          go_wp2
          go_ret2
          exact ⟨by rw [HX.out]; rfl, HB2.out⟩
      · obtain rfl : k = P.length := by omega
        have hG := HG.out
        rw [List.take_length] at hG
        have HX := Lib.hid (Vo.check_good HBig.out hG)
        have hS := HS.out
        rw [List.take_length] at hS
        have hA := pallBytes_any hS
        rw [Vo.bits_all hG (fun q hq => (HVr.out.ok_ q hq).1)] at hA
        clear hG hS
        by_cases hmany : Vo.bytesOf P < 256
        · rw [if_pos hmany] at HX
          rw [decide_eq_true hmany] at hA
          have HA := Lib.hid hA
          clear hmany hA
          go_wp2_with (fail)
          refine HA.out.mono ?_
          rintro e w' ⟨rfl, rfl⟩
          clear HA
          go_wp2
          go_quiet (fail)
          go_wp2
          go_ret2
          exact ⟨by rw [HX.out]; rfl, below_drewN HBw.out _⟩
        · rw [if_neg hmany] at HX
          rw [decide_eq_false hmany] at hA
          have HA := Lib.hid hA
          clear hmany hA
          go_wp2_with (fail)
          refine HA.out.mono ?_
          rintro e w' ⟨rfl, rfl⟩
          clear HA
          go_wp2
          go_ret2
          exact ⟨by rw [HX.out]; rfl, HBw.out⟩
end Go.Proofs.Ytkialijipcbgkaa
