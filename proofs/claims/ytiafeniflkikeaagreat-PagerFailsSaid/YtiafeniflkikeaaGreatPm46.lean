/- Parts of the proof. -/
import Derived.Test.YtiafeniflkikeaaGreatPm44
import Derived.Test.YtiafeniflkikeaaGreatPm45
import Derived.Test.YtiafeniflkikeaaGreatPm28
import Derived.Test.YtiafeniflkikeaaGreatPm21
import Derived.Test.YtiafeniflkikeaaGreatPm06
import Derived.Test.YtiafeniflkikeaaGreatPm13
import Derived.Test.YtiafeniflkikeaaGreatPm26
import Derived.Test.YtiafeniflkikeaaGreatPm03
import Derived.Deep.RegionHeld3
namespace Go.Proofs.YtiafeniflkikeaaGreat
open Go.RowKit
set_option linter.unusedVariables false
def Pp.t2 (F : List Nat) (a : Nat) : Sf.St := { (Sf.new 524288) with files := [⟨F, []⟩], sure := Sf.with_ [] ⟨#[105]⟩ 0, seen := Sf.with_ [] ⟨#[105]⟩ 0, row := [], acts := a }
def Pp.t2' (F : List Nat) (a : Nat) : Sf.St := { (Sf.new 524288) with files := [⟨F, []⟩], seen := Sf.with_ [] ⟨#[105]⟩ 0, row := [] ++ [Sf.with_ [] ⟨#[105]⟩ 0], acts := a }
def IsMade (w : World) (e : Ending) (w' : World) : Prop :=
 ∃ (b : Nat) (f : Fp) (a : Nat), e = .returned (.pointer (some ⟨b, 0, none⟩)) ∧ PDisk w' f (Pp.t2 Pp.made a) b ∧ f.From w.heap.size ∧ Below w.heap.size w w' ∧ a ≤ 700
set_option maxHeartbeats 2000000 in
set_option maxRecDepth 100000 in
theorem pmade_any (w : World) : Calls Tryz.prog 16 #[] w (IsMade w) := by
 have HN := Lib.hid (pnew_any 524288 (by unfold I64; omega) w)
 simp only [show ¬ ((524288 : Int) < 0 ∨ (1048576 : Int) < 524288) by omega, if_false] at HN
 go_enter Tryz.func16, Tryz.ntmps16
 go_wp2_with fail
 refine HN.out.mono ?_
 rintro e w1 ⟨b0, f0, rfl, hD1, hF1, hB1⟩
 have HB1 := Lib.hid hB1
 have HF1 := Lib.hid hF1
 have HMK := Lib.hid (ppmake_any ⟨#[105]⟩ hD1 (by decide +kernel) rfl rfl rfl (by decide +kernel) (by decide) (by show 0 ≤ _; omega))
 clear hD1 hB1 hF1 HN
 go_wp2_with fail
 refine HMK.out.mono ?_
 rintro e w2 ⟨x2, t2, f2, rfl, hD2, hN2, hT2, hac, hcase⟩
 have hu : Sf.used (Sf.new (524288 : Int).toNat) = 0 := rfl
 rcases hcase with ⟨hc, _⟩ | ⟨_, rfl, ht2⟩
 ·exfalso; rw [hu] at hc; exact absurd hc (by decide)
 have e2 : t2 = Pp.t2' Pp.made t2.acts := ht2
 obtain ⟨a2, ha2⟩ : ∃ a, t2.acts = a := ⟨_, rfl⟩
 rw [ha2] at e2 hac
 subst e2
 have HAC : Hid (a2 ≤ 600) := hac
 have hsd : Sf.syncDir (Pp.t2' Pp.made a2) = (0, Pp.t2 Pp.made (a2 + 1)) := rfl
 have HSD := Lib.hid (psyncDir_any hD2 (by show a2 < _; have := HAC.out; omega))
 rw [hsd] at HSD
 have HW2 : Hid (Below w.heap.size w w2) := HB1.out.trans (hT2.below HB1.out.size (fun q hq => HF1.out q (.inl hq)))
 have HF2 : Hid (f2.From w.heap.size) := hN2.from_ HF1.out HB1.out.size
 clear ht2 hu HMK hD2 hN2 hT2 hac hsd
 go_wp2_with fail
 refine HSD.out.mono ?_
 rintro e w3 ⟨rfl, f3, hD3, hN3, hT3⟩
 have HD3 := Lib.hid hD3
 have HF3 : Hid (f3.From w.heap.size) := hN3.from_ HF2.out HW2.out.size
 have HW3 : Hid (Below w.heap.size w w3) := HW2.out.trans (hT3.below HW2.out.size (fun q hq => HF2.out q (.inl hq)))
 clear hD3 hN3 hT3 HSD
 go_wp2
 go_ret
 exact ⟨b0, f3, a2 + 1, rfl, HD3.out, HF3.out, HW3.out, by have := HAC.out; omega⟩
end Go.Proofs.YtiafeniflkikeaaGreat
namespace Go.Proofs.YtiafeniflkikeaaGreat
open Go.RowKit
set_option linter.unusedVariables false
def Left (w : World) (p B : Nat) (l : List Int) : Prop := B ≤ p ∧ ∃ v, Rw w p 118 #[v] ∧ Lv iK w B v l
theorem Left.lt {w : World} {p B : Nat} {l : List Int} (h : Left w p B l) : p < w.heap.size := by
 obtain ⟨_, v, h, _⟩ := h
 exact h.lt
theorem Left.turned {w w' : World} {p B : Nat} {l : List Int} {F : Nat → Prop} (h : Left w p B l) (ht : Turned F w w') (hF : ∀ k, F k → B ≤ k ∧ k ≠ p) : Left w' p B l := by
 obtain ⟨hb, v, h1, h2⟩ := h
 refine ⟨hb, v, (ht.block p h1.lt (fun h => (hF p h).2 rfl)).trans h1, h2.turnedB_ ht (fun h0 k hk hf => ?_)⟩
 obtain ⟨A, c, e, _, _, _, _, h5⟩ := h2
 obtain ⟨b, off, rfl, hbp, _⟩ := h5 h0
 rw [e] at hk
 have e2 : b = k := Option.some.inj hk
 have := (hF k hf).1
 omega
set_option maxHeartbeats 4000000 in
set_option maxRecDepth 100000 in
theorem pof_any (w : World) (p B : Nat) (l : List Int) (h : Left w p B l) (m : Nat) (hm0 : 0 < m) (hm : m < 9223372036854775808) :
  Calls Tryz.prog 70 #[.pointer (some ⟨p, 0, none⟩), .int .i64 (m : Nat)] w (fun e w' => e = .returned (.int .i64 (Sf.took l m : Nat)) ∧ Left w' p B (l.drop 1) ∧ Turned (fun k => k = p) w w') := by
 have HH := Lib.hid h
 obtain ⟨hB, v, hp, hv⟩ := h
 have H0 := Lib.hid hv
 have HP := Lib.hid hp
 obtain ⟨A, c, rfl, hc1, hc2, _, _⟩ := hv
 have d0 : w.cell? ⟨p, 0, none⟩ = some (.slice A l.length c) := by rw [hp.cell]; rfl
 have z0 := hp.frozen 0
 cases l with
 | nil =>
  clear hp hc1 hc2
  simp only [List.length_nil] at d0
  go_enter Tryz.func70, Tryz.ntmps70
  go_wp2
  go_ret
  exact ⟨rfl, HH.out, Turned.refl _ _⟩
 | cons x r =>
  obtain ⟨b, off, y, rfl, hb, hx, hq, hcell⟩ := H0.out.int_ (k := 0) (by simp)
  simp only [List.getElem?_cons_zero, Option.some.injEq] at hq
  subst hq
  obtain ⟨A', k1, k2, hdr, _⟩ := cut_from iK rfl (some ⟨b, off, none⟩) (x :: r).length c 1 (by simp) hc1
  have hn : (x :: r).length = r.length + 1 := rfl
  rw [hn] at d0 k1 k2 hdr hc1
  change ∀ w, (Instr.slice 51 (.slice (some ⟨b, off, none⟩) (r.length + 1) c) (some (.int .i64 1)) none none).run Tryz.prog w = .ok (.slice A' r.length (c - 1)) w at k1
  change ∀ w, (Instr.sliceAt 51 (.slice (some ⟨b, off, none⟩) (r.length + 1) c) (some (.int .i64 1)) none none).run Tryz.prog w = .ok (.slice A' r.length (c - 1)) w at k2
  have hl : r.length + 1 ≤ 9223372036854775807 := by simp only [maxLen] at hc2; omega
  have q : (((r.length + 1 : Nat) : Int) == 0) = false := by rw [beq_eq_false_iff_ne]; omega
  have q2 : (0 : Int) < ((r.length + 1 : Nat) : Int) := by omega
  obtain ⟨W, hW⟩ : ∃ W, w.setCell ⟨p, 0, none⟩ (.slice A' r.length (c - 1)) = W := ⟨_, rfl⟩
  have hT : Turned (fun k => k = p) w W := by rw [← hW]; exact Turned.setCell (F := fun k => k = p) (Turned.refl (fun k => k = p) w) (p := ⟨p, 0, none⟩) (fun _ => rfl) _
  have hL : Left W p B r := ⟨hB, .slice A' r.length (c - 1), by rw [← hW]; exact hp.set 0 _, by
   have h1 := hdr w B (x :: r) (by rw [← hn]; exact H0.out)
   have h2 : Lv iK w B (.slice A' r.length (c - 1)) r := h1
   exact h2.turnedB_ hT (fun h0 k hk e => by
    obtain ⟨A2, c2, e2, _, _, _, _, h5⟩ := h2
    obtain ⟨b2, off2, rfl, hbp, _⟩ := h5 h0
    rw [e2] at hk
    have e3 : b2 = k := Option.some.inj hk
    omega)⟩
  have HL := Lib.hid hL
  have HT := Lib.hid hT
  obtain ⟨X, hX⟩ : ∃ X, (x % 18446744073709551616).toNat = X := ⟨_, rfl⟩
  have wu : IntKind.u64.wrap x = (X : Int) := by rw [IntKind.wrap_u64]; omega
  have wm : IntKind.u64.wrap (m : Int) = (m : Int) := by rw [IntKind.wrap_u64]; omega
  have HLF : Hid (Sf.took (x :: r) m = X % m) := by unfold Hid; show Sf.left x m = _; unfold Sf.left; rw [hX]
  obtain ⟨R, hR⟩ : ∃ R, X % m = R := ⟨_, rfl⟩
  have hRm : R < m := by rw [← hR]; exact Nat.mod_lt _ hm0
  have wr1 : (X : Int) % (m : Int) = (R : Int) := by rw [← hR]; omega
  have wr2 : IntKind.i64.wrap (R : Int) = (R : Int) := by rw [IntKind.wrap_i64]; omega
  have wr3 : wrap64 (R : Int) = (R : Int) := by unfold wrap64; omega
  have hm1 : ¬ (m : Int) = 0 := by omega
  rw [hR] at HLF
  rw [Nat.add_zero] at hcell
  clear hp hc1 hc2 hdr hL hT hX hR hb hx hB hn
  go_enter Tryz.func70, Tryz.ntmps70
  go_wp2
  go_ret
  rw [HLF.out]
  exact ⟨rfl, HL.out, HT.out⟩
end Go.Proofs.YtiafeniflkikeaaGreat
namespace Go.Proofs.YtiafeniflkikeaaGreat
open Go.RowKit
set_option linter.unusedVariables false
namespace Sf
def upTo (a n lb : Nat) : Nat := if a + n < lb then (a + n) / 512 * 512 else a + n
theorem upTo_le (a n lb : Nat) : upTo a n lb ≤ a + n := by
 unfold upTo
 split
 ·omega
 ·exact Nat.le_refl _
theorem torn_done (b : List Nat) (a : Act) (n : Nat) : torn b a n = done b ⟨false, a.at_, a.b.take (upTo a.at_ n b.length - a.at_)⟩ := by
 unfold torn
 simp only
 change (if upTo a.at_ n b.length ≤ a.at_ then b else _) = _
 by_cases h : upTo a.at_ n b.length ≤ a.at_
 ·rw [if_pos h, Nat.sub_eq_zero_of_le h, List.take_zero]
  simp [done]
 ·rw [if_neg h]
  rfl
end Sf
set_option maxHeartbeats 4000000 in
set_option maxRecDepth 100000 in
theorem pbegun_any (c : RawC) (A0 : Option Addr) (lb cb t : Nat) (B : Nat) (m : List Nat) (w : World) (hm : Lv yK w B (slV c.sl) m) (hB : B ≤ w.heap.size) (hc : c.at_ ≤ 1048576) (ht : t ≤ m.length) (hml : m.length ≤ 1048576) (hlb : lb ≤ 1048576) :
  Calls Tryz.prog 102 #[cV c, .slice A0 lb cb, .int .i64 (t : Nat)] w (fun e w' => e = .returned (cV ⟨c.at_, ⟨c.sl.A, Sf.upTo c.at_ t lb - c.at_, c.sl.c⟩, false⟩) ∧ Below w.heap.size w w') := by
 obtain ⟨at_, ⟨Ac, nc, cc⟩, cut⟩ := c
 simp only [slV] at hm hc ⊢
 obtain ⟨rfl, hmc, _⟩ := hm.len_
 change Calls _ _ #[.agg #[.int .i64 (at_ : Nat), .slice Ac m.length cc, .bool cut], _, _] w (fun e w' => e = .returned (.agg #[.int .i64 (at_ : Nat), .slice Ac (Sf.upTo at_ t lb - at_) cc, .bool false]) ∧ _)
 obtain ⟨W, hW⟩ : ∃ W, (w.alloc (.cells #[.int .i64 (at_ : Nat), .slice Ac m.length cc, .bool cut] 153)).alloc (.cells #[.int .i64 0, .slice none 0 0, .bool false] 153) = W := ⟨_, rfl⟩
 obtain ⟨p, hp⟩ : ∃ p, w.heap.size = p := ⟨_, rfl⟩
 have hW0 : W.heap[p]? = some (.cells #[.int .i64 (at_ : Nat), .slice Ac m.length cc, .bool cut] 153 (0, 0)) := by
  rw [← hW, ← hp, heap_alloc_old _ _ (by simp)]; exact heap_alloc_new _ _
 have hW1 : W.heap[p + 1]? = some (.cells #[.int .i64 0, .slice none 0 0, .bool false] 153 (0, 0)) := by
  rw [← hW, ← hp]
  have := heap_alloc_new (w.alloc (.cells #[.int .i64 (at_ : Nat), .slice Ac m.length cc, .bool cut] 153)) (.cells #[.int .i64 0, .slice none 0 0, .bool false] 153)
  simpa using this
 have hb : Below p w W := by rw [← hW, ← hp]; exact ((Below.refl _ _).alloc (Nat.le_refl _) _).alloc (by simp) _
 have hWs : W.heap.size = p + 2 := by rw [← hW, ← hp]; simp
 have HY : Hid (∀ w', Turned (fun k => k = p + 1) W w' → w'.cell? ⟨p, 0, none⟩ = some (.int .i64 (at_ : Nat)) ∧ w'.cell? ⟨p, 1, none⟩ = some (.slice Ac m.length cc)) := fun w' ht => by
  have hh := (ht.block p (by omega) (by omega)).trans hW0
  exact ⟨by rw [cell_of_row _ _ 0 _ _ _ hh]; rfl, by rw [cell_of_row _ _ 1 _ _ _ hh]; rfl⟩
 have c0 : W.cell? ⟨p, 0, none⟩ = some (.int .i64 (at_ : Nat)) := by rw [cell_of_row _ _ 0 _ _ _ hW0]; rfl
 have hue := Sf.upTo_le at_ t lb
 have hadd : IntKind.i64.wrap ((at_ : Int) + (t : Int)) = ((at_ + t : Nat) : Int) := by rw [IntKind.wrap_i64]; omega
 obtain ⟨E, hE⟩ : ∃ E, Sf.upTo at_ t lb = E := ⟨_, rfl⟩
 rw [hE] at hue ⊢
 have HWS := Lib.hid hWs
 have HBW := Lib.hid hb
 have HZ : Hid (Rw W (p + 1) 153 #[.int .i64 0, .slice none 0 0, .bool false]) := hW1
 have HRR : Hid (Rw W p 153 #[.int .i64 (at_ : Nat), .slice Ac m.length cc, .bool cut]) := hW0
 have hsub : IntKind.i64.wrap ((E : Int) - (at_ : Int)) = (E : Int) - (at_ : Int) := by rw [IntKind.wrap_i64]; omega
 obtain ⟨K0, hK0⟩ : ∃ K, E - at_ = K := ⟨_, rfl⟩
 have hmax : (if (E : Int) - (at_ : Int) < 0 then 0 else (E : Int) - (at_ : Int)) = (K0 : Int) := by split <;> omega
 have hmax2 : max ((E : Int) - (at_ : Int)) 0 = (K0 : Int) := by omega
 have hmax3 : max 0 ((E : Int) - (at_ : Int)) = (K0 : Int) := by omega
 have k1 : ∀ w, (Instr.slice 40 (.slice Ac m.length cc) none (some (.int .i64 (K0 : Nat))) none).run Tryz.prog w = .ok (.slice Ac K0 cc) w := fun w => cut_to yK rfl Ac m.length cc K0 (by omega) w
 have k2 : ∀ w, (Instr.sliceAt 40 (.slice Ac m.length cc) none (some (.int .i64 (K0 : Nat))) none).run Tryz.prog w = .ok (.slice Ac K0 cc) w := fun w => cutAt_to yK rfl Ac m.length cc K0 (by omega) w
 rw [hK0]
 obtain ⟨s, hs⟩ : ∃ s, at_ + t = s := ⟨_, rfl⟩
 rw [hs] at hadd hue
 unfold Sf.upTo at hE
 rw [hs] at hE
 clear hm hW0 hW1 hb hWs hK0
 by_cases hlt : s < lb
 ·rw [if_pos hlt] at hE
  have hlt' : (s : Int) < (lb : Int) := by omega
  have hEi : (s : Int) - (s : Int) % 512 = (E : Int) := by omega
  go_enter Tryz.func102, Tryz.ntmps102
  go_wp2
  refine wp_region_held_drew (S := fun w' => Turned (fun k => k = p + 1) W w') (by kernel_rfl) ((Turned.refl _ W).drew) (fun hH => ?_)
  refine zH (i := 0) (v := ?_) rfl (by kernel_rfl) (fun _ _ _ h => h) (Or.inl ⟨by rfl, (by intro w' hSw; go_simp; first | done | with_reducible rfl)⟩) hH ?_
  try simp only [Act.put, zA, zC, zD, zE, zF]
  refine zH (i := 1) (v := ?_) rfl (by kernel_rfl) (fun _ _ _ h => h) (Or.inl ⟨by rfl, (by intro w' hSw; obtain ⟨s0, s1⟩ := HY.out w' hSw; go_simp; first | done | with_reducible rfl)⟩) hH ?_
  try simp only [Act.put, zA, zB, zC, zD, zE, zF]
  refine zH (i := 2) (v := ?_) rfl (by kernel_rfl) (fun _ _ _ h => h) (Or.inl ⟨by rfl, (by intro w' hSw; go_simp; first | done | with_reducible rfl)⟩) hH ?_
  try simp only [Act.put, zA, zB, zC, zD, zE, zF]
  refine zH (i := 3) (v := ?_) rfl (by kernel_rfl) (fun _ _ _ h => h) (Or.inl ⟨by rfl, (by intro w' hSw; obtain ⟨s0, s1⟩ := HY.out w' hSw; go_simp; first | done | with_reducible rfl)⟩) hH ?_
  try simp only [Act.put, zA, zB, zC, zD, zE, zF]
  refine zH (i := 4) (v := ?_) rfl (by kernel_rfl) (fun _ _ _ h => h) (Or.inl ⟨by rfl, (by intro w' hSw; go_simp; first | done | with_reducible rfl)⟩) hH ?_
  try simp only [Act.put, zA, zB, zC, zD, zE, zF]
  refine zH (i := 5) (v := ?_) rfl (by kernel_rfl) (fun _ _ _ h => h) (Or.inl ⟨by rfl, (by intro w' hSw; go_simp; first | done | with_reducible rfl)⟩) hH ?_
  try simp only [Act.put, zA, zB, zC, zD, zE, zF]
  refine zH (i := 6) (v := ?_) rfl (by kernel_rfl) (fun _ _ _ h => h) (Or.inl ⟨by rfl, (by intro w' hSw; obtain ⟨s0, s1⟩ := HY.out w' hSw; go_simp; first | done | with_reducible rfl)⟩) hH ?_
  try simp only [Act.put, zA, zB, zC, zD, zE, zF]
  refine zH (i := 7) (v := ?_) rfl (by kernel_rfl) (fun _ _ _ h => h) (Or.inl ⟨by rfl, (by intro w' hSw; go_simp; first | done | with_reducible rfl)⟩) hH ?_
  try simp only [Act.put, zA, zB, zC, zD, zE, zF]
  refine zH (i := 8) (v := ?_) rfl (by kernel_rfl) (fun _ _ _ h => h) (Or.inl ⟨by rfl, (by intro w' hSw; go_simp; first | done | with_reducible rfl)⟩) hH ?_
  try simp only [Act.put, zA, zB, zC, zD, zE, zF]
  refine zH (i := 9) (v := ?_) rfl (by kernel_rfl) (fun _ _ _ h => h) (Or.inl ⟨by rfl, (by intro w' hSw; go_simp; first | done | with_reducible rfl)⟩) hH ?_
  try simp only [Act.put, zA, zB, zC, zD, zE, zF]
  refine zH (i := 10) (v := ?_) rfl (by kernel_rfl) (fun _ _ _ h => h) (Or.inl ⟨by rfl, (by intro w' hSw; go_simp; first | done | with_reducible rfl)⟩) hH ?_
  try simp only [Act.put, zA, zB, zC, zD, zE, zF]
  refine wpAnyH_ready (rs := [11]) (by kernel_rfl) (by simp) ?_
  refine AllReadyH.cons rfl (fun K hK => ?_) AllReadyH.nil
  rw [if_pos (by rfl)]
  have HZ3 : Hid (Rw W.drew (p + 1) 153 #[.int .i64 0, .slice none 0 0, .bool false]) := HZ.out
  refine wp_store_row 153 (.tmp 6) (.tmp 30) rfl (p + 1) #[.int .i64 (at_ : Nat), .slice Ac K0 cc, .bool false] rfl rfl 153 _ HZ3.out (by kernel_rfl) rfl (by simp [Value.oneCell']) ?_
  have HT4 : Hid (Turned (fun k => k = p + 1) W (W.drew.setRow (p + 1) #[.int .i64 (at_ : Nat), .slice Ac K0 cc, .bool false])) := ((Turned.refl (fun k => k = p + 1) W).drew).setRow (fun _ => rfl) _
  have HRZ := Lib.hid (HZ3.out.row #[.int .i64 (at_ : Nat), .slice Ac K0 cc, .bool false])
  refine hK.out _ _ HT4.out (fun hH => ?_)
  clear hK K
  refine wpAnyH_done (by kernel_rfl) ?_ _
  clear hH
  go_wp2
  try simp only [Act.put, zA, zB, zC]
  refine bodyPost_ret (v := .agg #[.int .i64 (at_ : Nat), .slice Ac K0 cc, .bool false]) (results_cell_row rfl _ _ (p + 1) 153 #[.int .i64 (at_ : Nat), .slice Ac K0 cc, .bool false] (0, 0) _ rfl HRZ.out Tryz.underlying153 rfl (by kernel_rfl)) rfl ⟨rfl, ?_⟩
  have t1 := (Turned.of_below HBW.out).trans HT4.out (fun k _ (h : k = p + 1) => (by omega : p ≤ k))
  rw [hp]
  exact t1.below (by omega) (fun k h => h)
 ·rw [if_neg hlt] at hE
  subst hE
  have hlt' : ¬ (s : Int) < (lb : Int) := by omega
  go_enter Tryz.func102, Tryz.ntmps102
  go_wp2
  refine wp_region_held_drew (S := fun w' => Turned (fun k => k = p + 1) W w') (by kernel_rfl) ((Turned.refl _ W).drew) (fun hH => ?_)
  refine zH (i := 0) (v := ?_) rfl (by kernel_rfl) (fun _ _ _ h => h) (Or.inl ⟨by rfl, (by intro w' hSw; go_simp; first | done | with_reducible rfl)⟩) hH ?_
  try simp only [Act.put, zA, zC, zD, zE, zF]
  refine zH (i := 1) (v := ?_) rfl (by kernel_rfl) (fun _ _ _ h => h) (Or.inl ⟨by rfl, (by intro w' hSw; obtain ⟨s0, s1⟩ := HY.out w' hSw; go_simp; first | done | with_reducible rfl)⟩) hH ?_
  try simp only [Act.put, zA, zB, zC, zD, zE, zF]
  refine zH (i := 2) (v := ?_) rfl (by kernel_rfl) (fun _ _ _ h => h) (Or.inl ⟨by rfl, (by intro w' hSw; go_simp; first | done | with_reducible rfl)⟩) hH ?_
  try simp only [Act.put, zA, zB, zC, zD, zE, zF]
  refine zH (i := 3) (v := ?_) rfl (by kernel_rfl) (fun _ _ _ h => h) (Or.inl ⟨by rfl, (by intro w' hSw; obtain ⟨s0, s1⟩ := HY.out w' hSw; go_simp; first | done | with_reducible rfl)⟩) hH ?_
  try simp only [Act.put, zA, zB, zC, zD, zE, zF]
  refine zH (i := 4) (v := ?_) rfl (by kernel_rfl) (fun _ _ _ h => h) (Or.inl ⟨by rfl, (by intro w' hSw; go_simp; first | done | with_reducible rfl)⟩) hH ?_
  try simp only [Act.put, zA, zB, zC, zD, zE, zF]
  refine zH (i := 5) (v := ?_) rfl (by kernel_rfl) (fun _ _ _ h => h) (Or.inl ⟨by rfl, (by intro w' hSw; go_simp; first | done | with_reducible rfl)⟩) hH ?_
  try simp only [Act.put, zA, zB, zC, zD, zE, zF]
  refine zH (i := 6) (v := ?_) rfl (by kernel_rfl) (fun _ _ _ h => h) (Or.inl ⟨by rfl, (by intro w' hSw; obtain ⟨s0, s1⟩ := HY.out w' hSw; go_simp; first | done | with_reducible rfl)⟩) hH ?_
  try simp only [Act.put, zA, zB, zC, zD, zE, zF]
  refine zH (i := 7) (v := ?_) rfl (by kernel_rfl) (fun _ _ _ h => h) (Or.inl ⟨by rfl, (by intro w' hSw; go_simp; first | done | with_reducible rfl)⟩) hH ?_
  try simp only [Act.put, zA, zB, zC, zD, zE, zF]
  refine zH (i := 8) (v := ?_) rfl (by kernel_rfl) (fun _ _ _ h => h) (Or.inl ⟨by rfl, (by intro w' hSw; go_simp; first | done | with_reducible rfl)⟩) hH ?_
  try simp only [Act.put, zA, zB, zC, zD, zE, zF]
  refine zH (i := 9) (v := ?_) rfl (by kernel_rfl) (fun _ _ _ h => h) (Or.inl ⟨by rfl, (by intro w' hSw; go_simp; first | done | with_reducible rfl)⟩) hH ?_
  try simp only [Act.put, zA, zB, zC, zD, zE, zF]
  refine zH (i := 10) (v := ?_) rfl (by kernel_rfl) (fun _ _ _ h => h) (Or.inl ⟨by rfl, (by intro w' hSw; go_simp; first | done | with_reducible rfl)⟩) hH ?_
  try simp only [Act.put, zA, zB, zC, zD, zE, zF]
  refine wpAnyH_ready (rs := [11]) (by kernel_rfl) (by simp) ?_
  refine AllReadyH.cons rfl (fun K hK => ?_) AllReadyH.nil
  rw [if_pos (by rfl)]
  have HZ3 : Hid (Rw W.drew (p + 1) 153 #[.int .i64 0, .slice none 0 0, .bool false]) := HZ.out
  refine wp_store_row 153 (.tmp 6) (.tmp 30) rfl (p + 1) #[.int .i64 (at_ : Nat), .slice Ac K0 cc, .bool false] rfl rfl 153 _ HZ3.out (by kernel_rfl) rfl (by simp [Value.oneCell']) ?_
  have HT4 : Hid (Turned (fun k => k = p + 1) W (W.drew.setRow (p + 1) #[.int .i64 (at_ : Nat), .slice Ac K0 cc, .bool false])) := ((Turned.refl (fun k => k = p + 1) W).drew).setRow (fun _ => rfl) _
  have HRZ := Lib.hid (HZ3.out.row #[.int .i64 (at_ : Nat), .slice Ac K0 cc, .bool false])
  refine hK.out _ _ HT4.out (fun hH => ?_)
  clear hK K
  refine wpAnyH_done (by kernel_rfl) ?_ _
  clear hH
  go_wp2
  try simp only [Act.put, zA, zB, zC]
  refine bodyPost_ret (v := .agg #[.int .i64 (at_ : Nat), .slice Ac K0 cc, .bool false]) (results_cell_row rfl _ _ (p + 1) 153 #[.int .i64 (at_ : Nat), .slice Ac K0 cc, .bool false] (0, 0) _ rfl HRZ.out Tryz.underlying153 rfl (by kernel_rfl)) rfl ⟨rfl, ?_⟩
  have t1 := (Turned.of_below HBW.out).trans HT4.out (fun k _ (h : k = p + 1) => (by omega : p ≤ k))
  rw [hp]
  exact t1.below (by omega) (fun k h => h)
end Go.Proofs.YtiafeniflkikeaaGreat
namespace Go.Proofs.YtiafeniflkikeaaGreat
open Go.RowKit
set_option linter.unusedVariables false
namespace Sf
theorem kept1_all {f : File} {l : List Int} (h : took l (f.row.length + 1) = f.row.length) : kept1 f l = (bytes f f.row.length, l.drop 1) := by
 unfold kept1
 rw [h, List.getElem?_eq_none (Nat.le_refl _)]
theorem kept1_cut {f : File} {l : List Int} {n : Nat} {a : Act} (hn : took l (f.row.length + 1) = n) (h : f.row[n]? = some a) (hc : a.cut = true) : kept1 f l = (bytes f n, l.drop 1) := by
 unfold kept1
 rw [hn, h]
 simp [hc]
theorem kept1_part {f : File} {l : List Int} {n : Nat} {a : Act} (hn : took l (f.row.length + 1) = n) (h : f.row[n]? = some a) (hc : a.cut = false) : kept1 f l = (torn (bytes f n) a (took (l.drop 1) (a.b.length + 1)), (l.drop 1).drop 1) := by
 unfold kept1
 rw [hn, h]
 simp [hc]
end Sf
set_option maxHeartbeats 4000000 in
set_option maxRecDepth 100000 in
theorem pleft_any {who : Who} {i : Nat} {x : RawX} {f : Sf.File} (w : World) (hX : HasX w who i x f) (p B : Nat) (l : List Int) (hL : Left w p B l) (hp : who p = none) :
  Calls Tryz.prog 74 #[xV x, .pointer (some ⟨p, 0, none⟩)] w (fun e w' => ∃ u : Sl, e = .returned (slV u) ∧ OwnL yK w' w.heap.size (slV u) (Sf.kept1 f l).1 ∧ Left w' p B (Sf.kept1 f l).2 ∧ Turned (fun k => k = p) w w') := by
 obtain ⟨rc, hrl, hrow, hacts⟩ := hX.row
 have hsu := hX.sure
 have hrw := hX.rowW
 have hok := hX.ok
 clear hX
 obtain ⟨⟨A1, n1, c1⟩, ⟨A2, n2, c2⟩, ⟨A3, n3, c3⟩⟩ := x
 simp only [slV] at hrow hsu hrw
 change Calls _ _ #[.agg #[.slice A1 n1 c1, .slice A2 n2 c2, .slice A3 n3 c3], _] w _
 have hrv := hrow.form_
 obtain ⟨rfl, hn2, _⟩ := hrv.len_
 obtain ⟨W, hW⟩ : ∃ W, w.alloc (.cells #[.slice A1 n1 c1, .slice A2 rc.length c2, .slice A3 n3 c3] 105) = W := ⟨_, rfl⟩
 obtain ⟨q, hq⟩ : ∃ q, w.heap.size = q := ⟨_, rfl⟩
 have hWs : W.heap.size = q + 1 := by rw [← hW, ← hq]; simp
 have hW0 : Rw W q 105 #[.slice A1 n1 c1, .slice A2 rc.length c2, .slice A3 n3 c3] := by rw [← hW, ← hq]; exact heap_alloc_new _ _
 have hb : Below q w W := by rw [← hW, ← hq]; exact (Below.refl _ _).alloc (Nat.le_refl _) _
 have hLW : Left W p B l := hL.turned (Turned.of_below hb) (fun k hk => by have := hL.lt; have := hL.1; omega)
 have hpq : p < q := by rw [← hq]; exact hL.lt
 obtain ⟨G, hG⟩ : ∃ G : Nat → Prop, (fun k => k = p ∨ q + 1 ≤ k) = G := ⟨_, rfl⟩
 have HG : Hid (∀ k, G k ↔ (k = p ∨ q + 1 ≤ k)) := fun k => by rw [← hG]
 have HROW : Hid (∀ wr, Turned G W wr → Lv cK wr q (.slice A2 rc.length c2) rc) := fun wr ht => by
  have h4 := (hrv.below_ hb (by omega)).turnedB_ ht (fun _ k hk hg => by
   rcases (HG.out k).1 hg with h | h
   ·have h2 := hrw k hk
    rw [h, hp] at h2
    cases h2
   ·have h3 := (hrow.lt_ k hk).2
    omega)
  rw [← hq]
  exact h4
 have HACT : Hid (∀ (wr : World) (j : Nat) (r : RawC) (a : Sf.Act), Turned G W wr → rc[j]? = some r → f.row[j]? = some a → r.cut = a.cut ∧ r.at_ = a.at_ ∧ Lv yK wr q (slV r.sl) a.b ∧ (0 < a.b.length → ∀ k, (slV r.sl).ownBlock = some k → k < q)) := fun wr j r a ht hr ha => by
  have h := hacts j r a hr ha
  have hlv : Lv yK w q (slV r.sl) a.b := by rw [← hq]; exact h.lv
  have hblk : 0 < a.b.length → ∀ k, (slV r.sl).ownBlock = some k → k < q := fun h0 k hk => by
   obtain ⟨A, c, e, _, _, _, _, h5⟩ := hlv
   obtain ⟨b, off, rfl, hbp, _⟩ := h5 h0
   rw [e] at hk
   have e2 : b = k := Option.some.inj hk
   omega
  refine ⟨h.cut, h.at_, (hlv.below_ hb (Nat.le_refl _)).turnedB_ ht (fun h0 k hk hg => ?_), hblk⟩
  rcases (HG.out k).1 hg with h6 | h6
  ·have h2 := h.blk h0 k hk
   rw [h6, hp] at h2
   cases h2
  ·have := hblk h0 k hk; omega
 have HBOX : Hid (∀ wr, Turned G W wr → wr.cell? ⟨q, 1, none⟩ = some (.slice A2 rc.length c2)) := fun wr ht => by
  have h : Rw wr q 105 #[.slice A1 n1 c1, .slice A2 rc.length c2, .slice A3 n3 c3] := (ht.block q (by omega) (fun h => by have := (HG.out q).1 h; omega)).trans hW0
  rw [h.cell]; rfl
 have d0 : W.cell? ⟨q, 0, none⟩ = some (.slice A1 n1 c1) := by rw [hW0.cell]; rfl
 have hsl := hok.len 0 (Nat.zero_le _)
 rw [Sf.bytes_zero] at hsl
 have CB := Lib.hid (pbclone_any (.slice A1 n1 c1) f.sure W.heap.size W (hsu.below_ hb (by omega)).form_ (Nat.le_refl _) (by omega))
 have HLW := Lib.hid hLW
 have HBW := Lib.hid hb
 have HWS := Lib.hid hWs
 have HOK := Lib.hid hok
 have HRL := Lib.hid hrl
 have HPQ := Lib.hid hpq
 have HQ := Lib.hid hq
 have hl : rc.length ≤ 2199023255552 := by have := hok.row; omega
 have hcap : rc.length ≤ c2 := hn2
 clear hrow hsu hrw hok hacts hrv hn2 hW0 hb hG hrl hLW hL hp hpq hsl
 go_enter Tryz.func74, Tryz.ntmps74
 go_wp2_with fail
 refine CB.out.mono ?_
 rintro e w1 ⟨Ab, cb, rfl, hO1, hB1⟩
 have HO1 := Lib.hid hO1
 have hT1 : Turned G W w1 := (Turned.of_below hB1).mono fun k _ hk => (HG.out k).2 (.inr (by have := HWS.out; omega))
 have HT1 := Lib.hid hT1
 have HL1 : Hid (Left w1 p B l) := HLW.out.turned (Turned.of_below hB1) (fun k hk => by have := HPQ.out; have := HLW.out.1; have := HWS.out; omega)
 have b1 := HBOX.out w1 hT1
 clear CB hO1 hB1 hT1
 have CO := Lib.hid (pof_any w1 p B l HL1.out (rc.length + 1) (by omega) (by omega))
 have hadd : IntKind.i64.wrap ((rc.length : Int) + 1) = ((rc.length + 1 : Nat) : Int) := by rw [IntKind.wrap_i64]; omega
 go_wp2_with fail
 refine CO.out.mono ?_
 rintro e w2 ⟨rfl, hL2, hT2⟩
 have hT12 : Turned G W w2 := HT1.out.trans hT2 (fun k _ hk => (HG.out k).2 (.inl hk))
 have HO2 : Hid (OwnL yK w2 (q + 1) (.slice Ab f.sure.length cb) (Sf.bytes f 0)) := ((HO1.out.turned_ hT2 (fun k hk e => by have := (HO1.out.lt_ k hk).1; have := HPQ.out; have := HWS.out; omega)).mono_ (by have := HWS.out; omega))
 have HL2 := Lib.hid hL2
 have HT2 := Lib.hid hT12
 have b2 := HBOX.out w2 hT12
 have htk := Sf.took_le l rc.length
 obtain ⟨n, hn⟩ : ∃ n, Sf.took l (rc.length + 1) = n := ⟨_, rfl⟩
 rw [hn] at htk ⊢
 have HN : Hid (Sf.took l (f.row.length + 1) = n) := by rw [← HRL.out]; exact hn
 have k1 : ∀ w, (Instr.slice 103 (.slice A2 rc.length c2) none (some (.int .i64 (n : Nat))) none).run Tryz.prog w = .ok (.slice A2 n c2) w := fun w => cut_to cK rfl A2 rc.length c2 n (by omega) w
 have k2 : ∀ w, (Instr.sliceAt 103 (.slice A2 rc.length c2) none (some (.int .i64 (n : Nat))) none).run Tryz.prog w = .ok (.slice A2 n c2) w := fun w => cutAt_to cK rfl A2 rc.length c2 n (by omega) w
 have hnl : n ≤ 9223372036854775807 := by omega
 clear CO hL2 hT2 hT12 hn b1 hadd HO1 HL1 HT1
 go_wp2
 go_loopw [5, 23] (fun v i wr => ∃ (k : Nat) (u : Sl), k ≤ n ∧ v = slV u ∧ i = .int .i64 k ∧ Hid (Turned G W wr) ∧ Hid (OwnL yK wr (q + 1) (slV u) (Sf.bytes f k)) ∧ Hid (Left wr p B (l.drop 1))) (fun _ i _ => n - (intOf i).toNat)
 case atStart => exact ⟨0, ⟨Ab, f.sure.length, cb⟩, Nat.zero_le _, rfl, rfl, HT2.out, HO2.out, HL2.out⟩
 case round =>
  obtain ⟨k, u, hk, rfl, rfl, HT, HO, HL⟩ := hrel
  have hRv := HROW.out wr HT.out
  have f1r := HBOX.out wr HT.out
  clear b2 HO2 HL2
  by_cases hlt : k < n
  ·obtain ⟨b, off, r, rfl, hbp, _, hr, hc⟩ := hRv.at_ (show k < rc.length by omega)
   have e0 : wr.cell? ⟨b, off + k * 3, none⟩ = some (.int .i64 (r.at_ : Nat)) := hc 0 _ rfl
   have e1 : wr.cell? ⟨b, off + k * 3 + 1, none⟩ = some (.slice r.sl.A r.sl.n r.sl.c) := hc 1 _ rfl
   have e2 : wr.cell? ⟨b, off + k * 3 + 2, none⟩ = some (.bool r.cut) := hc 2 _ rfl
   have hkf : k < f.row.length := by have := HRL.out; omega
   obtain ⟨a, ha⟩ : ∃ a, f.row[k]? = some a := ⟨_, List.getElem?_eq_getElem hkf⟩
   obtain ⟨q1, q2, q3, q4⟩ := HACT.out wr k r a HT.out hr ha
   obtain ⟨o1, o2, o3⟩ := HOK.out.at_ k a ha
   have o4 := HOK.out.len k (by omega)
   have HBS := Lib.hid (Sf.bytes_succ ha)
   obtain ⟨at_, ⟨Ac, nc, cc⟩, cut⟩ := r
   obtain ⟨acut, aat, ab⟩ := a
   simp only at q1 q2 q3 q4 o1 o2 o3 e0 e1 e2
   subst q1 q2
   simp only [slV] at q3 q4
   obtain ⟨wp, hwp⟩ : ∃ wp, wr.alloc (.cells #[.int .i64 (at_ : Nat), .slice Ac nc cc, .bool cut] 153) = wp := ⟨_, rfl⟩
   have hgp : wr.grownBy wp none := by rw [← hwp]; exact World.grownBy_alloc wr _ none
   have hsp : wp.heap.size = wr.heap.size + 1 := by rw [← hwp]; simp
   have hbxp : wp.heap[wr.heap.size]? = some (.cells #[.int .i64 (at_ : Nat), .slice Ac nc cc, .bool cut] 153 (0, 0)) := by rw [← hwp]; exact heap_alloc_new _ _
   have hsr := HT.out.size
   have hW2 := HWS.out
   have d0' : wp.cell? ⟨wr.heap.size, 0, none⟩ = some (.int .i64 (at_ : Nat)) := by rw [cell_of_row _ _ 0 _ _ _ hbxp]; rfl
   have d1' : wp.cell? ⟨wr.heap.size, 1, none⟩ = some (.slice Ac nc cc) := by rw [cell_of_row _ _ 1 _ _ _ hbxp]; rfl
   have d2' : wp.cell? ⟨wr.heap.size, 2, none⟩ = some (.bool cut) := by rw [cell_of_row _ _ 2 _ _ _ hbxp]; rfl
   obtain ⟨uA, un, uc⟩ := u
   simp only [slV] at HO
   have HOp : OwnL yK wp (q + 1) (.slice uA un uc) (Sf.bytes f k) := HO.out.kept_ hgp (by cases h : (Value.slice uA un uc).ownBlock <;> simp)
   have hmp : Lv yK wp q (.slice Ac nc cc) ab := q3.kept_ hgp (by omega) (by simp)
   have hap : 0 < ab.length → Apart (.slice Ac nc cc) (.slice uA un uc) := fun h0 j h1 h2 => by
    have h3 := q4 h0 j h1
    have h4 := (HO.out.lt_ j h2).1
    omega
   have CD := Lib.hid (pcdo_any ⟨at_, ⟨Ac, nc, cc⟩, cut⟩ (.slice uA un uc) (Sf.bytes f k) (q + 1) q ab wp HOp hmp hap o1 (by omega) (by omega) (by omega) (by omega))
   change Hid (Calls _ _ #[.agg #[.int .i64 (at_ : Nat), .slice Ac nc cc, .bool cut], .slice uA un uc] wp _) at CD
   have hki : (k : Int) < (n : Int) := by omega
   have wk : IntKind.i64.wrap ((k : Int) + 1) = (k : Int) + 1 := by rw [IntKind.wrap_i64]; omega
   have HWP := Lib.hid hsp
   have HGP := Lib.hid hgp
   clear hc hr ha q3 q4 o1 o2 o3 o4 hkf hRv hgp hbxp hsp hsr hW2 HOp hmp hap hbp
   simp only [slV]
   go_wp2_with fail
   refine CD.out.mono ?_
   rintro e W2 ⟨Av, cv, rfl, hd, hg2, hmv⟩
   have HD2 := Lib.hid hd
   have HG2 := Lib.hid hg2
   clear CD hd hg2 hmv
   go_wp2
   go_roundw
   case rel =>
    have t1 : Turned G W wp := HT.out.trans (Turned.of_grown HGP.out) (fun j _ h => by cases h)
    have t3 : ∀ j, (Value.slice uA un uc).ownBlock = some j → q + 1 ≤ j := fun j h => (HO.out.lt_ j h).1
    have t2 : Turned G W W2 := t1.trans (Turned.of_grown HG2.out) (fun j _ h => (HG.out j).2 (.inr (t3 j h)))
    refine ⟨k + 1, ⟨Av, (Sf.done (Sf.bytes f k) ⟨cut, at_, ab⟩).length, cv⟩, hlt, rfl, by go_num, t2, ?_, ?_⟩
    ·rw [HBS.out]; exact HD2.out
    ·have hLp : Left wp p B (l.drop 1) := HL.out.turned (F := fun _ => False) ((Turned.of_grown HGP.out).mono (fun j _ h => by cases h)) (fun _ h => h.elim)
     exact hLp.turned (Turned.of_grown HG2.out) (fun j h => by have h2 := t3 j h; have := HPQ.out; have := hLp.1; omega)
   case measure => simp [intOf]; omega
  ·obtain rfl : k = n := by omega
   have hki : ¬ ((k : Int) < (k : Int)) := by omega
   obtain ⟨uA, un, uc⟩ := u
   simp only [slV] at HO ⊢
   have FIN : Hid (∀ w', Turned G W w' → Turned (fun k => k = p) w w') := fun w' ht => by
    have t1 := ((Turned.of_below HBW.out).mono (G := fun k => k = p ∨ q ≤ k) (fun j _ h => .inr h)).trans ht (fun j _ h => ((HG.out j).1 h).imp id (fun h => by omega))
    exact t1.mono fun j hj h => h.elim id (fun h => by have := HQ.out; omega)
   by_cases hkn : k = rc.length
   ·subst hkn
    have hke : (((rc.length : Nat) : Int) == ((rc.length : Nat) : Int)) = true := by simp
    have HE : Hid (Sf.kept1 f l = (Sf.bytes f rc.length, l.drop 1)) := by
     have h := HN.out
     unfold Hid
     rw [HRL.out] at h ⊢
     exact Sf.kept1_all h
    clear hRv
    go_wp2
    go_ret
    rw [HE.out]
    exact ⟨⟨uA, un, uc⟩, rfl, HO.out.mono_ (by have := HQ.out; omega), HL.out, FIN.out _ HT.out⟩
   ·have hkl : k < rc.length := by omega
    have hke : ((k : Int) == ((rc.length : Nat) : Int)) = false := by rw [beq_eq_false_iff_ne]; omega
    have hki2 : (k : Int) < (rc.length : Int) := by omega
    obtain ⟨b, off, r, rfl, hbp, _, hr, hc⟩ := hRv.at_ hkl
    have e2 : wr.cell? ⟨b, off + k * 3 + 2, none⟩ = some (.bool r.cut) := hc 2 _ rfl
    obtain ⟨a, ha⟩ : ∃ a, f.row[k]? = some a := ⟨_, List.getElem?_eq_getElem (by have := HRL.out; omega)⟩
    obtain ⟨q1, q2, q3, q4⟩ := HACT.out wr k r a HT.out hr ha
    cases hac : a.cut with
    | true =>
     have HE := Lib.hid (Sf.kept1_cut HN.out ha hac)
     rw [q1, hac] at e2
     clear hRv hc hr q1 q2 q3 q4 ha hac
     go_wp2
     go_ret
     rw [HE.out]
     exact ⟨⟨uA, un, uc⟩, rfl, HO.out.mono_ (by have := HQ.out; omega), HL.out, FIN.out _ HT.out⟩
    | false =>
     have HE := Lib.hid (Sf.kept1_part HN.out ha hac)
     have HC : Hid (∀ w', Turned G W w' → w'.cell? ⟨b, off + k * 3, none⟩ = some (.int .i64 (r.at_ : Nat)) ∧ w'.cell? ⟨b, off + k * 3 + 1, none⟩ = some (.slice r.sl.A r.sl.n r.sl.c) ∧ w'.cell? ⟨b, off + k * 3 + 2, none⟩ = some (.bool r.cut)) := fun w' ht => by
      obtain ⟨b', off', r', eA, _, _, hr', hc'⟩ := (HROW.out w' ht).at_ hkl
      injection eA with eA
      injection eA with e1 e2 _
      subst e1 e2
      rw [hr] at hr'
      obtain rfl := Option.some.inj hr'
      exact ⟨hc' 0 _ rfl, hc' 1 _ rfl, hc' 2 _ rfl⟩
     obtain ⟨o1, o2, o3⟩ := HOK.out.at_ k a ha
     have o4 := HOK.out.len k (by have := HRL.out; omega)
     have HLVB : Hid (∀ w', Turned G W w' → Lv yK w' q (slV r.sl) a.b) := fun w' ht => (HACT.out w' k r a ht hr ha).2.2.1
     have hun := HO.out.form_.len_.1
     obtain ⟨at_, ⟨Ac, nc, cc⟩, cut⟩ := r
     obtain ⟨acut, aat, ab⟩ := a
     simp only at q1 q2 q3 q4 o1 o2 o3 e2 HC HLVB hac HE
     subst q1 q2
     subst hac
     simp only [slV] at q3 q4 HLVB
     obtain ⟨rfl, hab, _⟩ := q3.len_
     have htk := Sf.took_le (l.drop 1) ab.length
     obtain ⟨t, ht⟩ : ∃ t, Sf.took (l.drop 1) (ab.length + 1) = t := ⟨_, rfl⟩
     rw [Sf.torn_done, ← hun] at HE
     simp only at HE
     have CO := Lib.hid (pof_any wr.drew p B (l.drop 1) (HL.out.turned ((Turned.refl (fun _ => False) wr).drew) (fun _ h => h.elim)) (ab.length + 1) (by omega) (by omega))
     rw [ht] at CO HE htk
     have hadd : IntKind.i64.wrap ((ab.length : Int) + 1) = ((ab.length + 1 : Nat) : Int) := by rw [IntKind.wrap_i64]; omega
     have HS0 : Hid (Turned G W wr.drew) := HT.out.drew
     have HON : Hid (∀ w', Turned (fun k => k = p) wr.drew w' → OwnL yK w' (q + 1) (.slice uA un uc) (Sf.bytes f k)) := fun w' ht => (show OwnL yK wr.drew (q + 1) (.slice uA un uc) (Sf.bytes f k) from HO.out.drew_).turned_ ht (fun j hj e => by have := (HO.out.lt_ j hj).1; have := HPQ.out; omega)
     have HOO : Hid (at_ ≤ (Sf.bytes f k).length ∧ ab.length ≤ 1048576 ∧ (Sf.bytes f k).length ≤ 1048576 ∧ un = (Sf.bytes f k).length ∧ t ≤ ab.length ∧ at_ ≤ 1048576) := ⟨o1, o2, o4, hun, htk, by omega⟩
     have hsr := HT.out.size
     have HSR : Hid (q + 1 ≤ wr.heap.size) := by have := HWS.out; unfold Hid; omega
     clear hRv hc hr q3 q4 ha o1 o2 o3 o4 hun htk ht hsr hab
     go_wp2
     refine wp_region_held_drew (S := fun w' => Turned G W w') (by kernel_rfl) HS0.out (fun hH => ?_)
     refine zH (i := 0) (v := ?_) rfl (by kernel_rfl) (fun _ _ _ h => h) (Or.inl ⟨by rfl, (by intro w' hSw; go_simp; first | done | with_reducible rfl)⟩) hH ?_
     try simp only [Act.put, zA, zC, zD, zE, zF]
     refine zH (i := 1) (v := ?_) rfl (by kernel_rfl) (fun _ _ _ h => h) (Or.inl ⟨by rfl, (by intro w' hSw; have s1 := HBOX.out w' hSw; go_simp; first | done | with_reducible rfl)⟩) hH ?_
     try simp only [Act.put, zA, zB, zC, zD, zE, zF]
     refine zH (i := 2) (v := ?_) rfl (by kernel_rfl) (fun _ _ _ h => h) (Or.inl ⟨by rfl, (by intro w' hSw; go_simp; first | done | with_reducible rfl)⟩) hH ?_
     try simp only [Act.put, zA, zB, zC, zD, zE, zF]
     refine zH (i := 3) (v := ?_) rfl (by kernel_rfl) (fun _ _ _ h => h) (Or.inl ⟨by rfl, (by intro w' hSw; go_simp; first | done | with_reducible rfl)⟩) hH ?_
     try simp only [Act.put, zA, zB, zC, zD, zE, zF]
     refine zH (i := 4) (v := ?_) rfl (by kernel_rfl) (fun _ _ _ h => h) (Or.inl ⟨by rfl, (by intro w' hSw; obtain ⟨s0, s1, s2⟩ := HC.out w' hSw; go_simp; first | done | with_reducible rfl)⟩) hH ?_
     try simp only [Act.put, zA, zB, zC, zD, zE, zF]
     refine zH (i := 5) (v := ?_) rfl (by kernel_rfl) (fun _ _ _ h => h) (Or.inl ⟨by rfl, (by intro w' hSw; go_simp; first | done | with_reducible rfl)⟩) hH ?_
     try simp only [Act.put, zA, zB, zC, zD, zE, zF]
     refine zH (i := 6) (v := ?_) rfl (by kernel_rfl) (fun _ _ _ h => h) (Or.inl ⟨by rfl, (by intro w' hSw; go_simp; first | done | with_reducible rfl)⟩) hH ?_
     try simp only [Act.put, zA, zB, zC, zD, zE, zF]
     refine zH (i := 7) (v := ?_) rfl (by kernel_rfl) (fun _ _ _ h => h) (Or.inl ⟨by rfl, (by intro w' hSw; go_simp; first | done | with_reducible rfl)⟩) hH ?_
     try simp only [Act.put, zA, zB, zC, zD, zE, zF]
     refine zH (i := 8) (v := ?_) rfl (by kernel_rfl) (fun _ _ _ h => h) (Or.inl ⟨by rfl, (by intro w' hSw; have s1 := HBOX.out w' hSw; go_simp; first | done | with_reducible rfl)⟩) hH ?_
     try simp only [Act.put, zA, zB, zC, zD, zE, zF]
     refine zH (i := 9) (v := ?_) rfl (by kernel_rfl) (fun _ _ _ h => h) (Or.inl ⟨by rfl, (by intro w' hSw; go_simp; first | done | with_reducible rfl)⟩) hH ?_
     try simp only [Act.put, zA, zB, zC, zD, zE, zF]
     refine zH (i := 10) (v := ?_) rfl (by kernel_rfl) (fun _ _ _ h => h) (Or.inl ⟨by rfl, (by intro w' hSw; go_simp; first | done | with_reducible rfl)⟩) hH ?_
     try simp only [Act.put, zA, zB, zC, zD, zE, zF]
     refine zH (i := 11) (v := ?_) rfl (by kernel_rfl) (fun _ _ _ h => h) (Or.inl ⟨by rfl, (by intro w' hSw; go_simp; first | done | with_reducible rfl)⟩) hH ?_
     try simp only [Act.put, zA, zB, zC, zD, zE, zF]
     refine zH (i := 12) (v := ?_) rfl (by kernel_rfl) (fun _ _ _ h => h) (Or.inl ⟨by rfl, (by intro w' hSw; obtain ⟨s0, s1, s2⟩ := HC.out w' hSw; go_simp; first | done | with_reducible rfl)⟩) hH ?_
     try simp only [Act.put, zA, zB, zC, zD, zE, zF]
     refine zH (i := 13) (v := ?_) rfl (by kernel_rfl) (fun _ _ _ h => h) (Or.inl ⟨by rfl, (by intro w' hSw; go_simp; first | done | with_reducible rfl)⟩) hH ?_
     try simp only [Act.put, zA, zB, zC, zD, zE, zF]
     refine zH (i := 14) (v := ?_) rfl (by kernel_rfl) (fun _ _ _ h => h) (Or.inl ⟨by rfl, (by intro w' hSw; go_simp; first | done | with_reducible rfl)⟩) hH ?_
     try simp only [Act.put, zA, zB, zC, zD, zE, zF]
     refine zH (i := 17) (v := ?_) rfl (by kernel_rfl) (fun _ _ _ h => h) (Or.inl ⟨by rfl, (by intro w' hSw; go_simp; first | done | with_reducible rfl)⟩) hH ?_
     try simp only [Act.put, zA, zB, zC, zD, zE, zF]
     refine wpAnyH_ready (rs := [15]) (by kernel_rfl) (by simp) ?_
     refine AllReadyH.cons rfl (fun K hK => ?_) AllReadyH.nil
     go_simp
     refine CO.out.mono ?_
     rintro e W3 ⟨rfl, hL3, hT3⟩
     have hT13 : Turned G W W3 := HS0.out.trans hT3 (fun j _ h => (HG.out j).2 (.inl h))
     have HL3 := Lib.hid hL3
     have HT3 := Lib.hid hT3
     have HT13 := Lib.hid hT13
     have CBG := Lib.hid (pbegun_any ⟨at_, ⟨Ac, ab.length, cc⟩, false⟩ uA un uc t q ab W3 (HLVB.out W3 hT13) (by have := HSR.out; have := hT3.size; have h2 : wr.drew.heap.size = wr.heap.size := rfl; omega) HOO.out.2.2.2.2.2 HOO.out.2.2.2.2.1 HOO.out.2.1 (by have := HOO.out; omega))
     change Hid (Calls _ _ #[.agg #[.int .i64 (at_ : Nat), .slice Ac ab.length cc, .bool false], _, _] W3 _) at CBG
     refine hK.out _ _ hT13 (fun hH => ?_)
     clear hK K CO hL3 hT3 hT13
     try simp only [Act.put, zA, zB, zC, zD, zE, zF]
     refine wpAnyH_ready (rs := [16]) (by kernel_rfl) (by simp) ?_
     refine AllReadyH.cons rfl (fun K hK => ?_) AllReadyH.nil
     go_simp
     refine CBG.out.mono ?_
     rintro e W4 ⟨rfl, hB4⟩
     have hT14 : Turned G W W4 := HT13.out.trans (Turned.of_below hB4) (fun j _ h => (HG.out j).2 (.inr (by have := HT13.out.size; have := HWS.out; omega)))
     have HB4 := Lib.hid hB4
     have HT14 := Lib.hid hT14
     have hKl : Sf.upTo at_ t un - at_ ≤ ab.length := by have := Sf.upTo_le at_ t un; have := HOO.out; omega
     have hs4 : q + 1 ≤ W4.heap.size := by have := hT14.size; have := HWS.out; omega
     have hOn4 : OwnL yK W4 (q + 1) (.slice uA un uc) (Sf.bytes f k) := (HON.out W3 HT3.out).below_ hB4 (Nat.le_refl _)
     have CD := Lib.hid (pcdo_any ⟨at_, ⟨Ac, Sf.upTo at_ t un - at_, cc⟩, false⟩ (.slice uA un uc) (Sf.bytes f k) (q + 1) q (ab.take (Sf.upTo at_ t un - at_)) W4 hOn4 ((HLVB.out W4 hT14).take_ hKl) (fun h0 j h1 h2 => by
      have h3 := (hOn4.lt_ j h2).1
      obtain ⟨A, c, e, _, _, _, _, h5⟩ := (HLVB.out W4 hT14).take_ hKl
      obtain ⟨b2, off2, rfl, hbq, _⟩ := h5 h0
      have h4 : Value.slice Ac (Sf.upTo at_ t un - at_) cc = .slice (some ⟨b2, off2, none⟩) _ c := e
      have h1' : (Value.slice Ac (Sf.upTo at_ t un - at_) cc).ownBlock = some j := h1
      rw [h4] at h1'
      have e2 : b2 = j := Option.some.inj h1'
      omega) HOO.out.1 (by have := HOO.out; omega) (by rw [List.length_take]; have := HOO.out; omega) (by omega) (by omega))
     change Hid (Calls _ _ #[cV ⟨at_, ⟨Ac, Sf.upTo at_ t un - at_, cc⟩, false⟩, .slice uA un uc] W4 _) at CD
     refine hK.out _ _ hT14 (fun hH => ?_)
     clear hK K CBG hB4 hT14 hKl hs4 hOn4
     try simp only []
     refine wpAnyH_ready (rs := [18]) (by kernel_rfl) (by simp) ?_
     refine AllReadyH.cons rfl (fun K hK => ?_) AllReadyH.nil
     go_simp
     refine CD.out.mono ?_
     rintro e W5 ⟨Av, cv, rfl, hd, hg5, hmv⟩
     have HD5 := Lib.hid hd
     have hT45 : Turned (fun j => q + 1 ≤ j) W4 W5 := (Turned.of_grown hg5).mono (fun j _ h => by
      have hOn4 : OwnL yK W4 (q + 1) (.slice uA un uc) (Sf.bytes f k) := (HON.out W3 HT3.out).below_ HB4.out (Nat.le_refl _)
      exact (hOn4.lt_ j h).1)
     have HT45 := Lib.hid hT45
     have hT15 : Turned G W W5 := HT14.out.trans hT45 (fun j _ h => (HG.out j).2 (.inr h))
     have HT15 := Lib.hid hT15
     refine hK.out _ _ hT15 (fun hH => ?_)
     clear hK K CD hd hg5 hmv hT45 hT15
     try simp only []
     refine zH (i := 19) (v := ?_) rfl (by kernel_rfl) (fun _ _ _ h => h) (Or.inl ⟨by rfl, (by intro w' hSw; go_simp; first | done | with_reducible rfl)⟩) hH ?_
     try simp only [Act.put, zA, zB, zC, zD, zE, zF]
     refine wpAnyH_done (by kernel_rfl) ?_ _
     clear hH
     go_wp2
     go_ret
     rw [HE.out]
     refine ⟨⟨Av, _, cv⟩, rfl, HD5.out.mono_ (by have := HQ.out; omega), ?_, FIN.out _ HT15.out⟩
     have h4 : Left W4 p B ((l.drop 1).drop 1) := HL3.out.turned (Turned.of_below HB4.out) (fun j h => by have := HL3.out.lt; have := HL3.out.1; omega)
     exact h4.turned HT45.out (fun j h => by have := HPQ.out; have := h4.1; omega)
end Go.Proofs.YtiafeniflkikeaaGreat
