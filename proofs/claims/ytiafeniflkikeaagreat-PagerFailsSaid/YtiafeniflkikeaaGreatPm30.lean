/- Parts of the proof. -/
import Derived.Test.YtiafeniflkikeaaGreatPm13
import Derived.Test.YtiafeniflkikeaaGreatPm29
import Derived.Test.YtiafeniflkikeaaGreatPm12
import Derived.Deep.RegionHeld3
import Derived.Test.YtiafeniflkikeaaGreatPm20
import Derived.Defers
namespace Go.Proofs.YtiafeniflkikeaaGreat
open Go.RowKit
set_option linter.unusedVariables false
section
variable {w : World} {s : Pp.S} {b bf U D P H last frm : Nat} {fH : Int → Option RawH}
theorem kept_built (kd : Nat) (a1 : Option Addr) (a2 a3 : Nat) (t : Int) : Tryz.prog.built 174 [(0, .agg #[.int .u8 (kd : Nat), .slice a1 a2 a3]), (1, .int .i64 t)] = some #[.int .u8 (kd : Nat), .slice a1 a2 a3, .int .i64 t] := by kernel_rfl
theorem pyC_last (bf : Nat) (s : Pp.S) (U D P H last frm : Nat) : (pyC bf s U D P H last frm).setIfInBounds 14 (.int .i64 ((last : Int) + 1)) = pyC bf s U D P H (last + 1) frm := rfl
set_option maxHeartbeats 4000000 in
set_option maxRecDepth 100000 in
theorem pykeep_any (hh : Rw w b 79 (pyC bf s U D P H last frm)) (hm : IsMp haM w H 65536 fH) (hbH : b ≠ H) (hs : Pp.Small fH) (hc : Pp.cnt 65536 fH ≤ s.cache) (hc2 : s.cache ≤ 256)
  (ht : ∀ k c, fH k = some c → c.turn ≤ (last : Int)) (hl : last < 2305843009213693952) (n : Nat) (hn : n < 65536) (u : RawU) :
  Calls Tryz.prog 97 #[.pointer (some ⟨b, 12, none⟩), .int .i64 (n : Nat), uV u] w (fun e w' => e = .returned (.tuple #[]) ∧ ∃ fH', Rw w' b 79 (pyC bf s U D P H (last + 1) frm) ∧ IsMp haM w' H 65536 fH' ∧
   (∀ k c, fH' k = some c → (k = (n : Int) ∧ c = ⟨u, (last : Int) + 1⟩) ∨ fH k = some c) ∧ Pp.cnt 65536 fH' ≤ s.cache ∧ Turned (fun q => q = b ∨ q = H) w w') := by
 obtain ⟨kd, ⟨a1, a2, a3⟩⟩ := u
 change Calls _ _ #[.pointer (some ⟨b, 12, none⟩), .int .i64 (n : Nat), .agg #[.int .u8 (kd : Nat), .slice a1 a2 a3]] w _
 obtain ⟨W, hW⟩ : ∃ W, w.alloc (.cells #[.int .u8 (kd : Nat), .slice a1 a2 a3] 108) = W := ⟨_, rfl⟩
 have hbW : b < w.heap.size := hh.lt
 have hWc : Rw W w.heap.size 108 #[.int .u8 (kd : Nat), .slice a1 a2 a3] := by rw [← hW]; exact Rw.new w _ _
 have hhW : Rw W b 79 (pyC bf s U D P H last frm) := by rw [← hW]; exact hh.old _
 have hTW : Turned (fun q => q = b ∨ q = H) w W := by rw [← hW]; exact (Turned.refl _ _).alloc _
 have hmW : IsMp haM W H 65536 fH := hm.below_ (by rw [← hW]; exact (Below.refl _ _).alloc (Nat.le_refl _) _) hm.lt_
 have hw1 : IntKind.i64.wrap ((last : Int) + 1) = (last : Int) + 1 := by rw [IntKind.wrap_i64]; omega
 have c14 : W.cell? ⟨b, 14, none⟩ = some (.int .i64 (last : Nat)) := hhW.cell 14
 have f14 : W.frozen? ⟨b, 14, none⟩ = false := hhW.frozen 14
 obtain ⟨V, hV⟩ : ∃ V, W.setCell ⟨b, 14, none⟩ (.int .i64 ((last : Int) + 1)) = V := ⟨_, rfl⟩
 have hVh : Rw V b 79 (pyC bf s U D P H (last + 1) frm) := by rw [← hV, ← pyC_last]; exact hhW.set 14 _
 have hVc : Rw V w.heap.size 108 #[.int .u8 (kd : Nat), .slice a1 a2 a3] := by rw [← hV]; exact hWc.setOther (by omega) _ _
 have hTV : Turned (fun q => q = b ∨ q = H) w V := by rw [← hV]; exact hTW.setCell (fun _ => .inl rfl) _
 have hTWV : Turned (fun q => q = b) W V := by rw [← hV]; exact (Turned.refl (fun q => q = b) W).setCell (p := ⟨b, 14, none⟩) (fun _ => rfl) _
 have HMV := Lib.hid (hmW.turned_ hTWV (fun e => hbH e.symm))
 have d13 : V.drew.cell? ⟨b, 13, none⟩ = some (.map (some H)) := hVh.cell 13
 have d14 : V.drew.cell? ⟨b, 14, none⟩ = some (.int .i64 ((last : Int) + 1)) := hVh.cell 14
 have k0 : V.drew.cell? ⟨w.heap.size, 0, none⟩ = some (.int .u8 (kd : Nat)) := hVc.cell 0
 have k1 : V.drew.cell? ⟨w.heap.size, 1, none⟩ = some (.slice a1 a2 a3) := hVc.cell 1
 obtain ⟨X, hX⟩ : ∃ X, V.drew = X := ⟨_, rfl⟩
 rw [hX] at d13 d14 k0 k1
 have HXM : Hid (IsMp haM X H 65536 fH) := by unfold Hid; rw [← hX]; exact HMV.out.of_block rfl
 have HXH : Hid (Rw X b 79 (pyC bf s U D P H (last + 1) frm)) := by unfold Hid; rw [← hX]; exact hVh
 have HTX : Hid (Turned (fun q => q = b ∨ q = H) w X) := by unfold Hid; rw [← hX]; exact hTV.drew
 have HS := Lib.hid hs
 have HC := Lib.hid (And.intro hc hc2)
 have HT := Lib.hid ht
 have HL := Lib.hid (And.intro hl hn)
 have HBH := Lib.hid hbH
 have hok : haM.ok (n : Int) := i64_ok (by unfold I64; omega)
 have HOK := Lib.hid hok
 have hbt := kept_built kd a1 a2 a3 ((last : Int) + 1)
 clear hh hm hbH hs hc hc2 ht hl hhW hTW hmW hVh hVc hTV hTWV hbW hWc hok
 go_enter Tryz.func97, Tryz.ntmps97
 go_wp2_with fail
 refine wp_region_m (fun w' => w' = X) 11 (by kernel_rfl) ?_
 rw [hX]
 have hH : X = X := rfl
 refine zM (i := 0) (v := ?_) rfl (by kernel_rfl) (fun _ _ _ h => h) hH (Or.inl ⟨by rfl, (by intro w' hSw; rw [hSw]; go_simp; first | done | with_reducible rfl)⟩) ?_
 try simp only [Act.put, zA, zC, zD, zE, zF]
 refine zM (i := 1) (v := ?_) rfl (by kernel_rfl) (fun _ _ _ h => h) hH (Or.inl ⟨by rfl, (by intro w' hSw; rw [hSw]; go_simp; first | done | with_reducible rfl)⟩) ?_
 try simp only [Act.put, zA, zB, zC, zD, zE, zF]
 refine zM (i := 2) (v := ?_) rfl (by kernel_rfl) (fun _ _ _ h => h) hH (Or.inl ⟨by rfl, (by intro w' hSw; rw [hSw]; go_simp; first | done | with_reducible rfl)⟩) ?_
 try simp only [Act.put, zA, zB, zC, zD, zE, zF]
 refine zM (i := 3) (v := ?_) rfl (by kernel_rfl) (fun _ _ _ h => h) hH (Or.inl ⟨by rfl, (by intro w' hSw; rw [hSw]; go_simp; first | done | with_reducible rfl)⟩) ?_
 try simp only [Act.put, zA, zB, zC, zD, zE, zF]
 refine zM (i := 4) (v := ?_) rfl (by kernel_rfl) (fun _ _ _ h => h) hH (Or.inl ⟨by rfl, (by intro w' hSw; rw [hSw]; go_simp; first | done | with_reducible rfl)⟩) ?_
 try simp only [Act.put, zA, zB, zC, zD, zE, zF]
 refine zM (i := 5) (v := ?_) rfl (by kernel_rfl) (fun _ _ _ h => h) hH (Or.inl ⟨by rfl, (by intro w' hSw; rw [hSw]; go_simp; first | done | with_reducible rfl)⟩) ?_
 try simp only [Act.put, zA, zB, zC, zD, zE, zF]
 refine zM (i := 6) (v := ?_) rfl (by kernel_rfl) (fun _ _ _ h => h) hH (Or.inl ⟨by rfl, (by intro w' hSw; rw [hSw]; go_simp; first | done | with_reducible rfl)⟩) ?_
 try simp only [Act.put, zA, zB, zC, zD, zE, zF]
 refine zM (i := 7) (v := ?_) rfl (by kernel_rfl) (fun _ _ _ h => h) hH (Or.inl ⟨by rfl, (by intro w' hSw; rw [hSw]; go_simp; first | done | with_reducible rfl)⟩) ?_
 try simp only [Act.put, zA, zB, zC, zD, zE, zF]
 refine zM (i := 8) (v := ?_) rfl (by kernel_rfl) (fun _ _ _ h => h) hH (Or.inl ⟨by rfl, (by intro w' hSw; rw [hSw]; go_simp; first | done | with_reducible rfl)⟩) ?_
 try simp only [Act.put, zA, zB, zC, zD, zE, zF]
 refine zM (i := 9) (v := ?_) rfl (by kernel_rfl) (fun _ _ _ h => h) hH (Or.inl ⟨by rfl, (by intro w' hSw; rw [hSw]; go_simp; first | done | with_reducible rfl)⟩) ?_
 try simp only [Act.put, zA, zB, zC, zD, zE, zF]
 refine zM (i := 10) (v := ?_) rfl (by kernel_rfl) (fun _ _ _ h => h) hH (Or.inl ⟨by rfl, (by intro w' hSw; rw [hSw]; go_simp; first | done | with_reducible rfl)⟩) ?_
 try simp only [Act.put, zA, zB, zC, zD, zE, zF]
 obtain ⟨fN, hfN⟩ : ∃ fN : Int → Option RawH, (fun k => if k = (n : Int) then some (⟨⟨kd, ⟨a1, a2, a3⟩⟩, (last : Int) + 1⟩ : RawH) else fH k) = fN := ⟨_, rfl⟩
 have HFN : Hid (∀ k c, fN k = some c → (k = (n : Int) ∧ c = ⟨⟨kd, ⟨a1, a2, a3⟩⟩, (last : Int) + 1⟩) ∨ fH k = some c) := fun k c hc => by
  rw [← hfN] at hc
  simp only at hc
  split at hc
  ·rename_i e
   exact .inl ⟨e, (Option.some.inj hc).symm⟩
  ·exact .inr hc
 have HSN : Hid (Pp.Small fN) := fun k c hc => by
  rcases HFN.out k c hc with ⟨e, _⟩ | h
  ·have := HL.out; omega
  ·exact HS.out k c h
 have HCN : Hid (Pp.cnt 65536 fN ≤ s.cache + 1) := by
  unfold Hid
  rw [← hfN]
  exact Nat.le_trans (Pp.cnt_put _ _ _ _) (by have := HC.out.1; omega)
 have HTN : Hid (∀ k c, fN k = some c → c.turn ≤ ((last + 1 : Nat) : Int)) := fun k c hc => by
  rcases HFN.out k c hc with ⟨_, rfl⟩ | h
  ·show (last : Int) + 1 ≤ _; omega
  ·have := HT.out k c h; omega
 have HNN : Hid (∃ k c, fN k = some c) := ⟨(n : Int), _, by rw [← hfN]; exact if_pos rfl⟩
 obtain ⟨Y, hup, hm4, hg4⟩ := HXM.out.upd (by simp only [maxLen]; omega) HOK.out (⟨⟨kd, ⟨a1, a2, a3⟩⟩, (last : Int) + 1⟩ : RawH)
 change (Instr.mapUpdate 75 (.map (some H)) (.int .i64 (n : Nat)) (.agg #[.int .u8 (kd : Nat), .slice a1 a2 a3, .int .i64 ((last : Int) + 1)])).run Tryz.prog X = .ok () Y at hup
 rw [hfN] at hm4
 have HMY := Lib.hid (hm4.tight haM_ok ha_ok HSN.out)
 have HTY : Hid (Turned (fun q => q = b ∨ q = H) w Y) := HTX.out.trans (Turned.of_grown hg4) (fun k _ h => .inr (Option.some.inj h).symm)
 have HXY : Hid (Rw Y b 79 (pyC bf s U D P H (last + 1) frm)) := (hg4.block b HXH.out.lt (fun e => HBH.out (Option.some.inj e))).trans HXH.out
 clear hm4 hg4 hfN
 refine wpAnyM_next (i := 11) (by kernel_rfl) rfl (fun K hK => ?_)
 go_simp
 refine hK.out _ _ (.inl (Nat.le_refl _)) ?_
 clear hK K hup
 try simp only [Act.put, zA, zB, zC, zD, zE, zF]
 refine wpAnyM_done (by kernel_rfl) ?_ _
 clear d13 d14 k0 k1 hbt hX hw1 c14 f14 hV hW hH
 have e13 : Y.drew.cell? ⟨b, 13, none⟩ = some (.map (some H)) := HXY.out.cell 13
 have e12 : Y.drew.cell? ⟨b, 12, none⟩ = some (.int .i64 (s.cache : Nat)) := HXY.out.cell 12
 have elen : (Builtin.len_ #[75] 3 #[.map (some H)]).run Tryz.prog Y.drew = .ok (.int .i64 (Pp.cnt 65536 fN : Nat)) Y.drew := (HMY.out.of_block rfl : IsMp haM Y.drew H 65536 fN).len_ haM_ok ha_ok HSN.out _
 obtain ⟨q, hq⟩ : ∃ q, Pp.cnt 65536 fN = q := ⟨_, rfl⟩
 have HQ := Lib.hid hq
 rw [hq] at elen HCN
 obtain ⟨cc, hcc⟩ : ∃ c, s.cache = c := ⟨_, rfl⟩
 have HCE := Lib.hid hcc
 rw [hcc] at e12 HCN HC
 obtain ⟨Z, hZ⟩ : ∃ Z, Y.drew = Z := ⟨_, rfl⟩
 rw [hZ] at e13 e12 elen
 have HMZ : Hid (IsMp haM Z H 65536 fN) := by unfold Hid; rw [← hZ]; exact HMY.out.of_block rfl
 have HXZ : Hid (Rw Z b 79 (pyC bf s U D P H (last + 1) frm)) := by unfold Hid; rw [← hZ]; exact HXY.out
 have HTZ : Hid (Turned (fun q => q = b ∨ q = H) w Z) := by unfold Hid; rw [← hZ]; exact HTY.out.drew
 clear hq hcc
 by_cases hgt : cc < q
 ·have hd : decide ((cc : Int) < (q : Int)) = true := decide_eq_true (by omega)
  go_wp2_with fail
  refine wp_region_m (fun w' => w' = Z) 10 (by kernel_rfl) ?_
  rw [hZ]
  have hH : Z = Z := rfl
  refine zM (i := 0) (v := ?_) rfl (by kernel_rfl) (fun _ _ _ h => h) hH (Or.inl ⟨by rfl, (by intro w' hSw; rw [hSw]; go_simp; first | done | with_reducible rfl)⟩) ?_
  try simp only [Act.put, zA, zC, zD, zE, zF]
  refine zM (i := 1) (v := ?_) rfl (by kernel_rfl) (fun _ _ _ h => h) hH (Or.inl ⟨by rfl, (by intro w' hSw; rw [hSw]; go_simp; first | done | with_reducible rfl)⟩) ?_
  try simp only [Act.put, zA, zB, zC, zD, zE, zF]
  refine zM (i := 2) (v := ?_) rfl (by kernel_rfl) (fun _ _ _ h => h) hH (Or.inl ⟨by rfl, (by intro w' hSw; rw [hSw]; go_simp; first | done | with_reducible rfl)⟩) ?_
  try simp only [Act.put, zA, zB, zC, zD, zE, zF]
  refine zM (i := 3) (v := ?_) rfl (by kernel_rfl) (fun _ _ _ h => h) hH (Or.inl ⟨by rfl, (by intro w' hSw; rw [hSw]; go_simp; first | done | with_reducible rfl)⟩) ?_
  try simp only [Act.put, zA, zB, zC, zD, zE, zF]
  refine zM (i := 4) (v := ?_) rfl (by kernel_rfl) (fun _ _ _ h => h) hH (Or.inl ⟨by rfl, (by intro w' hSw; rw [hSw]; go_simp; first | done | with_reducible rfl)⟩) ?_
  try simp only [Act.put, zA, zB, zC, zD, zE, zF]
  refine zM (i := 5) (v := ?_) rfl (by kernel_rfl) (fun _ _ _ h => h) hH (Or.inl ⟨by rfl, (by intro w' hSw; rw [hSw]; go_simp; first | done | with_reducible rfl)⟩) ?_
  try simp only [Act.put, zA, zB, zC, zD, zE, zF]
  refine zM (i := 6) (v := ?_) rfl (by kernel_rfl) (fun _ _ _ h => h) hH (Or.inl ⟨by rfl, (by intro w' hSw; rw [hSw]; go_simp; first | done | with_reducible rfl)⟩) ?_
  try simp only [Act.put, zA, zB, zC, zD, zE, zF]
  refine zM (i := 7) (v := ?_) rfl (by kernel_rfl) (fun _ _ _ h => h) hH (Or.inl ⟨by rfl, (by intro w' hSw; rw [hSw]; go_simp; first | done | with_reducible rfl)⟩) ?_
  try simp only [Act.put, zA, zB, zC, zD, zE, zF]
  refine zM (i := 8) (v := ?_) rfl (by kernel_rfl) (fun _ _ _ h => h) hH (Or.inl ⟨by rfl, (by intro w' hSw; rw [hSw]; go_simp; first | done | with_reducible rfl)⟩) ?_
  try simp only [Act.put, zA, zB, zC, zD, zE, zF]
  refine zM (i := 9) (v := ?_) rfl (by kernel_rfl) (fun _ _ _ h => h) hH (Or.inl ⟨by rfl, (by intro w' hSw; rw [hSw]; go_simp; first | done | with_reducible rfl)⟩) ?_
  try simp only [Act.put, zA, zB, zC, zD, zE, zF]
  refine wpAnyM_done (by kernel_rfl) ?_ _
  clear hH elen
  obtain ⟨z, hz⟩ : ∃ z, Z.drew = z := ⟨_, rfl⟩
  have g13 : z.cell? ⟨b, 13, none⟩ = some (.map (some H)) := by rw [← hz]; exact e13
  have g14 : z.cell? ⟨b, 14, none⟩ = some (.int .i64 ((last + 1 : Nat) : Int)) := by rw [← hz]; exact HXZ.out.cell 14
  have HMz : Hid (IsMp haM z H 65536 fN) := by unfold Hid; rw [← hz]; exact HMZ.out.of_block rfl
  have HXz : Hid (Rw z b 79 (pyC bf s U D P H (last + 1) frm)) := by unfold Hid; rw [← hz]; exact HXZ.out
  have HTz : Hid (Turned (fun q => q = b ∨ q = H) w z) := by unfold Hid; rw [← hz]; exact HTZ.out.drew
  have CO := Lib.hid (pyoldest_any g13 g14 HMz.out (by have := HL.out; omega) HTN.out HSN.out HNN.out)
  clear g14 e13 e12 hd
  go_wp2_with fail
  refine wp_region_m (fun w' => Below z.heap.size z w') 6 (by kernel_rfl) ?_
  rw [hz]
  have hH : Below z.heap.size z z := Below.refl _ _
  have HGC : Hid (∀ w', Below z.heap.size z w' → w'.cell? ⟨b, 13, none⟩ = some (.map (some H))) := fun w' h => (HXz.out.below h HXz.out.lt).cell 13
  clear g13
  refine zM (i := 0) (v := ?_) rfl (by kernel_rfl) (fun _ _ _ h => h) hH (Or.inl ⟨by rfl, (by intro w' hSw; skip; go_simp; first | done | with_reducible rfl)⟩) ?_
  try simp only [Act.put, zA, zC, zD, zE, zF]
  refine zM (i := 1) (v := ?_) rfl (by kernel_rfl) (fun _ _ _ h => h) hH (Or.inl ⟨by rfl, (by intro w' hSw; skip; go_simp; first | done | with_reducible rfl)⟩) ?_
  try simp only [Act.put, zA, zB, zC, zD, zE, zF]
  refine zM (i := 2) (v := ?_) rfl (by kernel_rfl) (fun _ _ _ h => h) hH (Or.inl ⟨by rfl, (by intro w' hSw; skip; go_simp; first | done | with_reducible rfl)⟩) ?_
  try simp only [Act.put, zA, zB, zC, zD, zE, zF]
  refine zM (i := 3) (v := ?_) rfl (by kernel_rfl) (fun _ _ _ h => h) hH (Or.inl ⟨by rfl, (by intro w' hSw; have s0 := HGC.out w' hSw; go_simp; first | done | with_reducible rfl)⟩) ?_
  try simp only [Act.put, zA, zB, zC, zD, zE, zF]
  refine zM (i := 4) (v := ?_) rfl (by kernel_rfl) (fun _ _ _ h => h) hH (Or.inl ⟨by rfl, (by intro w' hSw; skip; go_simp; first | done | with_reducible rfl)⟩) ?_
  try simp only [Act.put, zA, zB, zC, zD, zE, zF]
  refine wpAnyM_next (i := 5) (by kernel_rfl) rfl (fun K hK => ?_)
  go_simp
  refine CO.out.mono ?_
  rintro e z2 ⟨k, rfl, hk, b2⟩
  have hlb := HXz.out.lt
  have HM2 : Hid (IsMp haM z2 H 65536 fN) := HMz.out.below_ b2 HMz.out.lt_
  have HX2 : Hid (Rw z2 b 79 (pyC bf s U D P H (last + 1) frm)) := HXz.out.below b2 hlb
  have HT2 : Hid (Turned (fun q => q = b ∨ q = H) w z2) := HTz.out.trans (Turned.of_below b2) (fun j hj h => by have := HTz.out.size; omega)
  obtain ⟨c0, hc0⟩ := Option.isSome_iff_exists.1 hk
  have hks := HSN.out k c0 hc0
  have hok : haM.ok k := i64_ok (by unfold I64; omega)
  obtain ⟨z3, hdel, hm3, hg3⟩ := HM2.out.del hok 0
  change (Builtin.delete_ #[75, 3] 0 #[.map (some H), .int .i64 k]).run Tryz.prog z2 = .ok (.tuple #[]) z3 at hdel
  have HK := Lib.hid (And.intro hk hks)
  have HM3 := Lib.hid hm3
  have HG3 := Lib.hid hg3
  refine hK.out _ _ (.inr b2) ?_
  clear hK K hk hks hok hm3 hg3 CO hc0 b2 hlb
  try simp only [Act.put, zA, zB, zC, zD, zE, zF]
  refine wpAnyM_next (i := 6) (by kernel_rfl) rfl (fun K hK => ?_)
  go_simp
  refine hK.out _ _ (.inl (Nat.le_refl _)) ?_
  clear hK K hdel
  try simp only [Act.put, zA, zB, zC, zD, zE, zF]
  refine wpAnyM_done (by kernel_rfl) ?_ _
  go_wp2
  have hks := HK.out.2
  refine bodyPost_end (results_none rfl _ _ _) rfl ⟨rfl, _, ?_, HM3.out, fun j c hc => ?_, ?_, ?_⟩
  ·exact (HG3.out.block b HX2.out.lt (fun e => HBH.out (Option.some.inj e))).trans HX2.out
  ·split at hc
   ·cases hc
   ·exact HFN.out j c hc
  ·have h1 := Pp.cnt_del (m := 65536) (f := fN) hks.1 (by omega) HK.out.1
   have h2 := HCN.out
   have h3 := HQ.out
   have h4 := HCE.out
   omega
  ·exact HT2.out.trans (Turned.of_grown HG3.out) (fun j _ h => .inr (Option.some.inj h).symm)
 ·have hd : decide ((cc : Int) < (q : Int)) = false := decide_eq_false (by omega)
  go_wp2_with fail
  refine wp_region_m (fun w' => w' = Z) 10 (by kernel_rfl) ?_
  rw [hZ]
  have hH : Z = Z := rfl
  refine zM (i := 0) (v := ?_) rfl (by kernel_rfl) (fun _ _ _ h => h) hH (Or.inl ⟨by rfl, (by intro w' hSw; rw [hSw]; go_simp; first | done | with_reducible rfl)⟩) ?_
  try simp only [Act.put, zA, zC, zD, zE, zF]
  refine zM (i := 1) (v := ?_) rfl (by kernel_rfl) (fun _ _ _ h => h) hH (Or.inl ⟨by rfl, (by intro w' hSw; rw [hSw]; go_simp; first | done | with_reducible rfl)⟩) ?_
  try simp only [Act.put, zA, zB, zC, zD, zE, zF]
  refine zM (i := 2) (v := ?_) rfl (by kernel_rfl) (fun _ _ _ h => h) hH (Or.inl ⟨by rfl, (by intro w' hSw; rw [hSw]; go_simp; first | done | with_reducible rfl)⟩) ?_
  try simp only [Act.put, zA, zB, zC, zD, zE, zF]
  refine zM (i := 3) (v := ?_) rfl (by kernel_rfl) (fun _ _ _ h => h) hH (Or.inl ⟨by rfl, (by intro w' hSw; rw [hSw]; go_simp; first | done | with_reducible rfl)⟩) ?_
  try simp only [Act.put, zA, zB, zC, zD, zE, zF]
  refine zM (i := 4) (v := ?_) rfl (by kernel_rfl) (fun _ _ _ h => h) hH (Or.inl ⟨by rfl, (by intro w' hSw; rw [hSw]; go_simp; first | done | with_reducible rfl)⟩) ?_
  try simp only [Act.put, zA, zB, zC, zD, zE, zF]
  refine zM (i := 5) (v := ?_) rfl (by kernel_rfl) (fun _ _ _ h => h) hH (Or.inl ⟨by rfl, (by intro w' hSw; rw [hSw]; go_simp; first | done | with_reducible rfl)⟩) ?_
  try simp only [Act.put, zA, zB, zC, zD, zE, zF]
  refine zM (i := 6) (v := ?_) rfl (by kernel_rfl) (fun _ _ _ h => h) hH (Or.inl ⟨by rfl, (by intro w' hSw; rw [hSw]; go_simp; first | done | with_reducible rfl)⟩) ?_
  try simp only [Act.put, zA, zB, zC, zD, zE, zF]
  refine zM (i := 7) (v := ?_) rfl (by kernel_rfl) (fun _ _ _ h => h) hH (Or.inl ⟨by rfl, (by intro w' hSw; rw [hSw]; go_simp; first | done | with_reducible rfl)⟩) ?_
  try simp only [Act.put, zA, zB, zC, zD, zE, zF]
  refine zM (i := 8) (v := ?_) rfl (by kernel_rfl) (fun _ _ _ h => h) hH (Or.inl ⟨by rfl, (by intro w' hSw; rw [hSw]; go_simp; first | done | with_reducible rfl)⟩) ?_
  try simp only [Act.put, zA, zB, zC, zD, zE, zF]
  refine zM (i := 9) (v := ?_) rfl (by kernel_rfl) (fun _ _ _ h => h) hH (Or.inl ⟨by rfl, (by intro w' hSw; rw [hSw]; go_simp; first | done | with_reducible rfl)⟩) ?_
  try simp only [Act.put, zA, zB, zC, zD, zE, zF]
  refine wpAnyM_done (by kernel_rfl) ?_ _
  clear hH e13 e12 elen
  go_wp2
  exact bodyPost_end (results_none rfl _ _ _) rfl ⟨rfl, fN, HXZ.out, HMZ.out, HFN.out, by rw [HQ.out, HCE.out]; omega, HTZ.out⟩
end
end Go.Proofs.YtiafeniflkikeaaGreat
namespace Go.Proofs.YtiafeniflkikeaaGreat
open Go.RowKit
set_option linter.unusedVariables false
section
variable {w : World} {s : Pp.S} {b bf U D P H last frm : Nat} {fH : Int → Option RawH}
theorem ct_size : (Tryz.prog.info? 108).map (·.size) = some 2 := by kernel_rfl
theorem ct_built0 : Tryz.prog.built 108 [] = some #[.int .u8 0, .slice none 0 0] := by kernel_rfl
theorem ct_built (kd : Nat) (a1 : Option Addr) (a2 a3 : Nat) : Tryz.prog.built 108 [(0, .int .u8 (kd : Nat)), (1, .slice a1 a2 a3)] = some #[.int .u8 (kd : Nat), .slice a1 a2 a3] := by kernel_rfl
theorem results_ct {fn : Func} {p u1 : Tmp} (h : fn.results = #[.cell p 108, .tmp u1]) (tmps : Array Value) (w : World) (g : Nat) (c : Array Value) (x : Value) (t : TypeId)
  (hp : tmps.getD p undef = .pointer (some ⟨g, 0, none⟩)) (hx : tmps.getD u1 undef = x) (hc : c.size = 2) (hg : w.heap[g]? = some (.cells c t (0, 0))) :
  (results fn tmps).run Tryz.prog w = .ok (.tuple #[.agg c, x]) w := by
 have hp' : tmps[p]?.getD undef = .pointer (some ⟨g, 0, none⟩) := by simpa using hp
 have hx' : tmps[u1]?.getD undef = x := by simpa using hx
 simp [results, h, hp', hx', asAddr, run_loadVar_row w g t _ _ (0, 0) _ hg Tryz.underlying108 rfl (by rw [hc]; exact ct_size)]
def IsKept (b bf U D P H last frm : Nat) (s : Pp.S) (fH : Int → Option RawH) (n : Int) (u : RawU) (w w' : World) : Prop :=
 ∃ fH', Rw w' b 79 (pyC bf s U D P H (last + 1) frm) ∧ IsMp haM w' H 65536 fH' ∧ (∀ k c, fH' k = some c → (k = n ∧ c = ⟨u, (last : Int) + 1⟩) ∨ fH k = some c) ∧ Pp.cnt 65536 fH' ≤ s.cache ∧ Turned (fun q => q = b ∨ q = H) w w'
def IsCFind (b bf U D P H last frm : Nat) (s : Pp.S) (fH : Int → Option RawH) (n : Int) (w : World) (e : Ending) (w' : World) : Prop :=
 (fH n = none ∧ e = .returned (.tuple #[.agg #[.int .u8 0, .slice none 0 0], .bool false]) ∧ Below w.heap.size w w') ∨
 (∃ c, fH n = some c ∧ e = .returned (.tuple #[uV c.u, .bool true]) ∧ IsKept b bf U D P H last frm s fH n c.u w w')
set_option maxHeartbeats 4000000 in
set_option maxRecDepth 100000 in
theorem pycfind_any (hh : Rw w b 79 (pyC bf s U D P H last frm)) (hm : IsMp haM w H 65536 fH) (hbH : b ≠ H) (hs : Pp.Small fH) (hc : Pp.cnt 65536 fH ≤ s.cache) (hc2 : s.cache ≤ 256)
  (ht : ∀ k c, fH k = some c → c.turn ≤ (last : Int)) (hl : last < 2305843009213693952) (n : Int) (hn : I64 n) :
  Calls Tryz.prog 103 #[.pointer (some ⟨b, 12, none⟩), .int .i64 n] w (IsCFind b bf U D P H last frm s fH n w) := by
 obtain ⟨W, hW⟩ : ∃ W, w.alloc (.cells #[.int .u8 0, .slice none 0 0] 108) = W := ⟨_, rfl⟩
 have hbW : Below w.heap.size w W := by rw [← hW]; exact (Below.refl _ _).alloc (Nat.le_refl _) _
 have hW0 : Rw W w.heap.size 108 #[.int .u8 0, .slice none 0 0] := by rw [← hW]; exact Rw.new w _ _
 have HMW : Hid (IsMp haM W H 65536 fH) := hm.below_ hbW hm.lt_
 have HHW : Hid (Rw W b 79 (pyC bf s U D P H last frm)) := hh.below hbW hh.lt
 have h13 : W.cell? ⟨b, 13, none⟩ = some (.map (some H)) := HHW.out.cell 13
 have HBW := Lib.hid hbW
 have HW0 := Lib.hid hW0
 cases hf : fH n with
 | none =>
  have hlk : (Instr.lookup 75 (.map (some H)) (.int .i64 n) true).run Tryz.prog W = .ok (.tuple #[.agg #[.int .u8 0, .slice none 0 0, .int .i64 0], .bool false]) W := by
   have h := HMW.out.look_ok (x := n) (i64_ok hn)
   rw [hf] at h
   exact h
  have HX0 : Hid (Rw (W.alloc (.cells #[.int .u8 0, .slice none 0 0, .int .i64 0] 174)) w.heap.size 108 #[.int .u8 0, .slice none 0 0]) := HW0.out.old _
  have HXB : Hid (Below w.heap.size w (W.alloc (.cells #[.int .u8 0, .slice none 0 0, .int .i64 0] 174))) := HBW.out.alloc HBW.out.size _
  have hct : (Tryz.prog.info? 108).map (·.size) = some (#[.int .u8 0, .slice none 0 0] : Array Value).size := ct_size
  have hone : (#[.int .u8 0, .slice none 0 0] : Array Value).all (·.oneCell') = true := by simp [Value.oneCell']
  have hsz2 : (#[.int .u8 0, .slice none 0 0] : Array Value).size = (#[.int .u8 0, .slice none 0 0] : Array Value).size := rfl
  have HF := Lib.hid hf
  clear hh hm hs hc ht hbW hW0 hf
  go_enter Tryz.func103, Tryz.ntmps103
  go_wp2_with ((with_reducible refine gate_store 108 ?_); refine wpList_store_row rfl 108 _ _ rfl w.heap.size #[.int .u8 0, .slice none 0 0] rfl rfl 108 #[.int .u8 0, .slice none 0 0] HX0.out hct hsz2 hone ?_)
  have HR2 := Lib.hid (And.intro (Rw.row HX0.out #[.int .u8 0, .slice none 0 0]) (below_setRow HXB.out (Nat.le_refl w.heap.size) #[.int .u8 0, .slice none 0 0]))
  generalize (W.alloc (.cells #[.int .u8 0, .slice none 0 0, .int .i64 0] 174)).setRow w.heap.size #[.int .u8 0, .slice none 0 0] = X2 at *
  try go_wp2
  refine bodyPost_ret (v := .tuple #[.agg #[.int .u8 0, .slice none 0 0], .bool false]) (results_ct rfl _ _ w.heap.size #[.int .u8 0, .slice none 0 0] (.bool false) _ rfl rfl rfl HR2.out.1) rfl ?_
  exact Or.inl ⟨HF.out, rfl, HR2.out.2⟩
 | some c =>
  obtain ⟨⟨kd, ⟨a1, a2, a3⟩⟩, tn⟩ := c
  have hlk : (Instr.lookup 75 (.map (some H)) (.int .i64 n) true).run Tryz.prog W = .ok (.tuple #[.agg #[.int .u8 (kd : Nat), .slice a1 a2 a3, .int .i64 tn], .bool true]) W := by
   have h := HMW.out.look_ok (x := n) (i64_ok hn)
   rw [hf] at h
   exact h
  obtain ⟨X, hX⟩ : ∃ X, W.alloc (.cells #[.int .u8 (kd : Nat), .slice a1 a2 a3, .int .i64 tn] 174) = X := ⟨_, rfl⟩
  have hXK : Rw X W.heap.size 174 #[.int .u8 (kd : Nat), .slice a1 a2 a3, .int .i64 tn] := by rw [← hX]; exact Rw.new W _ _
  have k0 : X.cell? ⟨W.heap.size, 0, none⟩ = some (.int .u8 (kd : Nat)) := hXK.cell 0
  have k1 : X.cell? ⟨W.heap.size, 1, none⟩ = some (.slice a1 a2 a3) := hXK.cell 1
  have HX0 : Hid (Rw X w.heap.size 108 #[.int .u8 0, .slice none 0 0]) := by unfold Hid; rw [← hX]; exact HW0.out.old _
  have HXB : Hid (Below w.heap.size w X) := by unfold Hid; rw [← hX]; exact HBW.out.alloc HBW.out.size _
  have hct : (Tryz.prog.info? 108).map (·.size) = some (#[.int .u8 (kd : Nat), .slice a1 a2 a3] : Array Value).size := ct_size
  have hone : (#[.int .u8 (kd : Nat), .slice a1 a2 a3] : Array Value).all (·.oneCell') = true := by simp [Value.oneCell']
  have hsz2 : (#[.int .u8 0, .slice none 0 0] : Array Value).size = (#[.int .u8 (kd : Nat), .slice a1 a2 a3] : Array Value).size := rfl
  obtain ⟨h0, h1⟩ := hs n _ hf
  obtain ⟨m, rfl⟩ : ∃ m : Nat, n = (m : Int) := ⟨n.toNat, by omega⟩
  have CK := Lib.hid (pykeep_any (hh.below HXB.out hh.lt) (hm.below_ HXB.out hm.lt_) hbH hs hc hc2 ht hl m (by omega) ⟨kd, ⟨a1, a2, a3⟩⟩)
  have HXK := Lib.hid hXK
  have HLT := Lib.hid (And.intro hh.lt hm.lt_)
  have HF := Lib.hid hf
  clear hh hm hs hc ht hbW hW0 hf hXK
  go_enter Tryz.func103, Tryz.ntmps103
  go_wp2_with fail
  refine CK.out.mono ?_
  rintro e w2 ⟨rfl, fN, h1', h2', h3', h4', h5'⟩
  have hno : ∀ q, w.heap.size ≤ q → ¬ (q = b ∨ q = H) := fun q hq h => by have := HLT.out; omega
  have HWs := HBW.out.size
  have hsz : W.heap.size = w.heap.size + 1 := by rw [← hW]; simp
  have hK2 : Rw w2 W.heap.size 174 #[.int .u8 (kd : Nat), .slice a1 a2 a3, .int .i64 tn] := (h5'.block _ HXK.out.lt (hno _ HWs)).trans HXK.out
  have HX2 : Hid (Rw w2 w.heap.size 108 #[.int .u8 0, .slice none 0 0]) := (h5'.block _ HX0.out.lt (hno _ (Nat.le_refl _))).trans HX0.out
  have k0' : w2.cell? ⟨W.heap.size, 0, none⟩ = some (.int .u8 (kd : Nat)) := hK2.cell 0
  have k1' : w2.cell? ⟨W.heap.size, 1, none⟩ = some (.slice a1 a2 a3) := hK2.cell 1
  have HT2 : Hid (Turned (fun q => q = b ∨ q = H) w w2) := ((Turned.of_below HXB.out).mono (G := fun q => q = b ∨ q = H) (fun k hk h => absurd hk (by omega))).trans h5' (fun _ _ h => h)
  have HE := Lib.hid (And.intro h1' (And.intro h2' (And.intro h3' h4')))
  clear CK hK2 k0 k1 h1' h2' h3' h4' h5' HWs hsz hno hX hW hlk hl hc2 h0 h1
  go_wp2_with ((with_reducible refine gate_store 108 ?_); refine wpList_store_row rfl 108 _ _ rfl w.heap.size #[.int .u8 (kd : Nat), .slice a1 a2 a3] rfl rfl 108 #[.int .u8 0, .slice none 0 0] HX2.out hct hsz2 hone ?_)
  have HR2 := Lib.hid (Rw.row HX2.out #[.int .u8 (kd : Nat), .slice a1 a2 a3])
  have HT3 := Lib.hid (HT2.out.setRow (g := w.heap.size) (fun h => absurd h (by omega)) #[.int .u8 (kd : Nat), .slice a1 a2 a3])
  have HE3 : Hid (Rw (w2.setRow w.heap.size #[.int .u8 (kd : Nat), .slice a1 a2 a3]) b 79 (pyC bf s U D P H (last + 1) frm) ∧ IsMp haM (w2.setRow w.heap.size #[.int .u8 (kd : Nat), .slice a1 a2 a3]) H 65536 fN) := by
   have := HLT.out
   exact ⟨HE.out.1.rowOther (by omega) _, HE.out.2.1.of_block (setRow_other _ _ _ _ (by omega))⟩
  generalize w2.setRow w.heap.size #[.int .u8 (kd : Nat), .slice a1 a2 a3] = X2 at *
  try go_wp2
  refine bodyPost_ret (v := .tuple #[.agg #[.int .u8 (kd : Nat), .slice a1 a2 a3], .bool true]) (results_ct rfl _ _ w.heap.size #[.int .u8 (kd : Nat), .slice a1 a2 a3] (.bool true) _ rfl rfl rfl HR2.out) rfl ?_
  exact Or.inr ⟨_, HF.out, rfl, fN, HE3.out.1, HE3.out.2, HE.out.2.2.1, HE.out.2.2.2, HT3.out⟩
end
end Go.Proofs.YtiafeniflkikeaaGreat
namespace Go.Proofs.YtiafeniflkikeaaGreat
open Go.RowKit
set_option linter.unusedVariables false
namespace Pp
def pend (l : List Pa.Page) : List Pa.Page := l.filter (fun x => decide (x.state = 2))
def putsE (name : ByteArray) (t : Sf.St) (x : Pa.Page) : Nat × Sf.St :=
 if (fillE t name (512 * x.n)).1 ≠ 0 then fillE t name (512 * x.n) else Sf.write (fillE t name (512 * x.n)).2 name ((512 * x.n : Nat) : Int) (Pg.page x.n x.kind x.body)
def putsL (name : ByteArray) : Sf.St → List Pa.Page → Nat × Sf.St
 | t, [] => (0, t)
 | t, x :: l => if (putsE name t x).1 ≠ 0 then putsE name t x else putsL name (putsE name t x).2 l
theorem numbers_pend (l : List Pa.Page) : Pa.numbers l 2 2 = (pend l).map (fun x => (x.n : Int)) := by
 unfold Pa.numbers pend
 congr 1
 refine List.filter_congr fun x _ => ?_
 unfold Pa.isOf
 rw [Bool.or_self]
 by_cases h : x.state = 2
 ·rw [decide_eq_true h, decide_eq_true (by omega)]
 ·rw [decide_eq_false h, decide_eq_false (by omega)]
theorem rising_few {l : List Pa.Page} (hr : Pa.Rising l) : ∀ {a c : Nat}, (∀ x ∈ l, a ≤ x.n ∧ x.n < c) → l.length ≤ c - a := by
 induction l with
 | nil => intro a c _; simp
 | cons y l ih =>
  intro a c h
  have hr' := List.pairwise_cons.1 hr
  have hy := h y List.mem_cons_self
  have := ih hr'.2 (a := y.n + 1) (c := c) (fun x hx => ⟨hr'.1 x hx, (h x (List.mem_cons_of_mem _ hx)).2⟩)
  rw [List.length_cons]
  omega
theorem blown_acts (t : Sf.St) : (Sf.blown t).2.acts = t.acts + 1 := by
 unfold Sf.blown
 split
 ·rfl
 split <;> rfl
theorem add_acts (t : Sf.St) (n : Nat) (a : Sf.Act) : (Sf.add t n a).2.acts = t.acts + 1 := blown_acts _
theorem append_acts (t : Sf.St) (s : ByteArray) (b : List Nat) : (Sf.append t s b).2.acts ≤ t.acts + 1 := by
  unfold Sf.append
  split; · exact Nat.le_succ _
  split; · exact Nat.le_succ _
  exact Nat.le_of_eq (add_acts _ _ _)
theorem write_acts (t : Sf.St) (s : ByteArray) (a : Int) (b : List Nat) : (Sf.write t s a b).2.acts ≤ t.acts + 1 := by
  unfold Sf.write
  split; · exact Nat.le_succ _
  split; · exact Nat.le_succ _
  split; · exact Nat.le_succ _
  exact Nat.le_of_eq (add_acts _ _ _)
theorem fillE_acts (t : Sf.St) (s : ByteArray) (a : Nat) : (fillE t s a).2.acts ≤ t.acts + 1 := by
  unfold fillE
  split; · exact Nat.le_succ _
  split; · exact Nat.le_succ _
  exact append_acts _ _ _
theorem putsE_acts (t : Sf.St) (s : ByteArray) (x : Pa.Page) : (putsE s t x).2.acts ≤ t.acts + 2 := by
 have := fillE_acts t s (512 * x.n)
 have := write_acts (fillE t s (512 * x.n)).2 s ((512 * x.n : Nat) : Int) (Pg.page x.n x.kind x.body)
 unfold putsE
 split <;> omega
end Pp
section
variable {w w' : World} {fp fd : Fp} {s : Pp.S} {F : List Nat} {b bf U D P H last frm : Nat} {fP : Int → Option RawU} {fH : Int → Option RawH} {t : Sf.St}
set_option maxHeartbeats 4000000 in
set_option maxRecDepth 100000 in
theorem pywritePending_any (h : PyHas w fp s F b bf U D P H last frm fP fH) (hD : PDisk w fd t bf) (hap : fp.Apart fd) (ha : t.acts ≤ 1099511400000) :
  Calls Tryz.prog 94 #[.pointer (some ⟨b, 0, none⟩)] w (IsDeed PDisk fd bf (Pp.putsL s.name t (Pp.pend s.l)) w) := by
 have CP := Lib.hid (pypending_any h)
 obtain ⟨pl, hpl⟩ : ∃ pl, Pp.pend s.l = pl := ⟨_, rfl⟩
 have hnum := Pp.numbers_pend s.l
 rw [hpl] at hnum
 rw [hnum] at CP
 have hlen : pl.length ≤ 65536 := by
  have h1 := Pp.rising_few h.sound.rise (a := 2) (c := 65536) (fun x hx => by have := h.sound.from2 x hx; omega)
  have h2 : pl.length ≤ s.l.length := by rw [← hpl]; exact List.length_filter_le _ _
  omega
 have hpx : ∀ x ∈ pl, x ∈ s.l ∧ x.state = 2 := fun x hx => by
  rw [← hpl] at hx
  have := List.mem_filter.1 hx
  exact ⟨this.1, by simpa using this.2⟩
 have HPX := Lib.hid hpx
 have HPL := Lib.hid hpl
 have HH := Lib.hid h
 have HD := Lib.hid hD
 have HAP := Lib.hid hap
 have HA := Lib.hid ha
 have HLEN := Lib.hid hlen
 clear h hD hap ha hnum hpx hpl hlen
 go_enter Tryz.func94, Tryz.ntmps94
 go_wp2_with fail
 refine CP.out.mono ?_
 rintro e w1 ⟨A, c, rfl, ho, b1⟩
 rw [List.length_map] at ho ⊢
 have HO := Lib.hid ho
 have HB1 := Lib.hid b1
 have HD1 := Lib.hid (pdisk_law.below HD.out b1)
 have HLT := Lib.hid (pdisk_law.lt HD.out)
 have HH1 := Lib.hid (HH.out.below b1)
 clear CP ho b1
 go_wp2
 go_loopw [13] (fun i wr => ∃ (k : Nat) (tk : Sf.St) (f : Fp), i = .int .i64 (k : Nat) ∧ k ≤ pl.length ∧ Hid (Pp.putsL s.name t pl = Pp.putsL s.name tk (pl.drop k)) ∧ Hid (tk.acts ≤ t.acts + 2 * k) ∧ Hid (PDisk wr f tk bf) ∧ Hid (fd.Next f w1.heap.size) ∧ Hid (Turned fd.M w1 wr)) (fun i _ => pl.length - (intOf i).toNat)
 case atStart => exact ⟨0, t, fd, rfl, Nat.zero_le _, rfl, Nat.le_refl _, HD1.out, Fp.Next.refl _ _, Turned.refl _ _⟩
 case round =>
  obtain ⟨k, tk, f, rfl, hk, HE, HK, HDK, HNK, HTK⟩ := hrel
  by_cases hlt : k < pl.length
  ·have hki : (k : Int) < (pl.length : Int) := by omega
   have hk0 : (0 : Int) ≤ (k : Int) := by omega
   have wk : IntKind.i64.wrap ((k : Int) + 1) = (k : Int) + 1 := by rw [IntKind.wrap_i64]; have := HLEN.out; omega
   obtain ⟨x, hx⟩ : ∃ x, pl[k]? = some x := ⟨pl[k], List.getElem?_eq_getElem hlt⟩
   have hHr := HH1.out.turned HTK.out HAP.out.1
   have hOr := HO.out.turned_ HTK.out (fun q hq hf => by have := (HO.out.lt_ q hq).1; have := HLT.out q (.inl hf); omega)
   obtain ⟨g, off, v, rfl, hg1, hv, hq, hcell⟩ := hOr.form_.int_ (k := k) (by rw [List.length_map]; exact hlt)
   rw [List.getElem?_map, hx, Option.map_some, Option.some.injEq] at hq
   subst hq
   obtain ⟨hxl, hx2⟩ := HPX.out x (List.mem_of_getElem? hx)
   have hx65 := hHr.sound.from2 x hxl
   obtain ⟨⟨kd, ⟨a1, a2, a3⟩⟩, hu⟩ := Option.isSome_iff_exists.1 (hHr.there x hxl hx2)
   obtain ⟨y, hy, hyn, hys, hIn⟩ := hHr.hpend _ _ hu
   obtain rfl : y = x := Pp.rising_inj hHr.sound.rise hy hxl (by omega)
   have hlk : (Instr.lookup 74 (.map (some P)) (.int .i64 (y.n : Int)) false).run Tryz.prog wr = .ok (.agg #[.int .u8 (kd : Nat), .slice a1 a2 a3]) wr := by
    have h := hHr.pend.look (x := (y.n : Int)) (i64_ok hv)
    rw [hu] at h
    exact h
   have h11 : wr.cell? ⟨b, 11, none⟩ = some (.map (some P)) := hHr.cell rfl
   have HX0 : Hid (Rw (wr.alloc (.cells #[.int .u8 0, .slice none 0 0] 108)) wr.heap.size 108 #[.int .u8 0, .slice none 0 0]) := Rw.new wr _ _
   have HXB : Hid (Below wr.heap.size wr (wr.alloc (.cells #[.int .u8 0, .slice none 0 0] 108))) := (Below.refl _ _).alloc (Nat.le_refl _) _
   have hct : (Tryz.prog.info? 108).map (·.size) = some (#[.int .u8 (kd : Nat), .slice a1 a2 a3] : Array Value).size := ct_size
   have hone : (#[.int .u8 (kd : Nat), .slice a1 a2 a3] : Array Value).all (·.oneCell') = true := by simp [Value.oneCell']
   have hsz2 : (#[.int .u8 0, .slice none 0 0] : Array Value).size = (#[.int .u8 (kd : Nat), .slice a1 a2 a3] : Array Value).size := rfl
   have hek : kd = y.kind := hIn.ek
   subst hek
   obtain ⟨X, hX⟩ : ∃ X, (wr.alloc (.cells #[.int .u8 0, .slice none 0 0] 108)).setRow wr.heap.size #[.int .u8 (y.kind : Nat), .slice a1 a2 a3] = X := ⟨_, rfl⟩
   have hXr : Rw X wr.heap.size 108 #[.int .u8 (y.kind : Nat), .slice a1 a2 a3] := by rw [← hX]; exact HX0.out.row _
   have HBX : Hid (Below wr.heap.size wr X) := by unfold Hid; rw [← hX]; exact below_setRow HXB.out (Nat.le_refl _) _
   have k0 : X.cell? ⟨wr.heap.size, 0, none⟩ = some (.int .u8 (y.kind : Nat)) := hXr.cell 0
   have k1 : X.cell? ⟨wr.heap.size, 1, none⟩ = some (.slice a1 a2 a3) := hXr.cell 1
   have HXE := Lib.hid hX
   have hpl := Pg.putE_ok (n := (y.n : Int)) (k := y.kind) (b := y.body) (by omega) (by have := hIn.len; omega)
   rw [Int.toNat_natCast] at hpl
   have CPP := Lib.hid (ppgput_any (y.n : Int) y.kind (.slice a1 a2 a3) y.body X.heap.size X hIn.k8 ((hIn.turned (Turned.of_below HBX.out) (fun q hq h => by have := (hHr.r q hq).2; omega)).lv) (Nat.le_refl _))
   rw [hpl] at CPP
   have CPL := Lib.hid (fun W => pyplace_any y.n (by omega) W)
   have HHR := Lib.hid (hHr.below HBX.out)
   have HXX := Lib.hid (And.intro hx (And.intro hxl hx65))
   have hDE : pl.drop k = y :: pl.drop (k + 1) := drop_at hx
   rw [hDE] at HE
   clear hHr hOr hy hyn hys hu hIn hx hxl hx2 hg1 hDE hx65 hX hXr hpl hv
   go_wp2_with ((with_reducible refine gate_store 108 ?_); refine wpList_store_row rfl 108 _ _ rfl wr.heap.size #[.int .u8 (y.kind : Nat), .slice a1 a2 a3] rfl rfl 108 #[.int .u8 0, .slice none 0 0] HX0.out hct hsz2 hone ?_; rw [HXE.out])
   refine CPP.out.mono ?_
   rintro e w2 ⟨A2, c2, rfl, ho2, b2⟩
   have HO2 := Lib.hid ho2
   have HB2 := Lib.hid (HBX.out.trans (b2.mono HBX.out.size))
   have HH2 := Lib.hid (HHR.out.below b2)
   have HD2 := Lib.hid (pdisk_law.below HDK.out HB2.out)
   have HKA : Hid (tk.acts + 2 ≤ 1099511627775) := by unfold Hid; have := HK.out; have := HA.out; have := HLEN.out; omega
   have CL1 := Lib.hid (CPL.out w2)
   have CF := Lib.hid (pyfill_any s.name HH2.out.sound.name (HH2.out.cell rfl) (HH2.out.cell rfl) (HH2.out.head.lt) HD2.out (by unfold Sf.Few; have := HKA.out; omega) (512 * y.n) (by have := HXX.out.2.2; omega))
   clear CPP ho2 b2 k0 k1 hct hone hsz2 hlk h11 hcell
   simp only
   go_wp2_with fail
   refine CL1.out.mono ?_
   rintro e w2' ⟨rfl, rfl⟩
   obtain ⟨ef, tf, hfe⟩ : ∃ ef tf, Pp.fillE tk s.name (512 * y.n) = (ef, tf) := ⟨_, _, rfl⟩
   have hfa := Pp.fillE_acts tk s.name (512 * y.n)
   rw [hfe] at CF hfa
   have HFE := Lib.hid hfe
   have HFA := Lib.hid hfa
   have HOFF : Hid (∀ f' : Fp, fd.Next f' w1.heap.size → fp.Off f'.M) := fun f' hN q hq => by
    have hl := HH.out.lt
    have := HB1.out.size
    rcases hN.m q hq with h | h
    ·exact HAP.out.1 q h
    ·exact ⟨fun h2 => by have := hl q (.inl h2); omega, fun h2 => by have := hl q (.inr h2); omega⟩
   clear CL1 hfe hfa
   simp only
   go_wp2_with fail
   refine CF.out.mono ?_
   rintro e w3 ⟨rfl, f3, hD3, hN3, hT3⟩
   have hs2 := HB2.out.size
   have hs1 := HTK.out.size
   have HT3 : Hid (Turned fd.M w1 w3) := (HTK.out.trans (Turned.of_below HB2.out) (G := fun q => wr.heap.size ≤ q) (fun q hq h => absurd hq (by omega))).trans hT3 (fun q hq h => (HNK.out.m q h).elim id (fun h => by omega))
   have HN3 : Hid (fd.Next f3 w1.heap.size) := HNK.out.trans hN3 (by omega)
   by_cases he : ef = 0
   ·subst he
    have hLv3 := HO2.out.form_.turnedB_ hT3 (fun _ q hq h => by
     have h1 := (HO2.out.lt_ q hq).1
     have h2 := pdisk_law.lt HDK.out q (.inl h)
     have := HBX.out.size
     omega)
    have hbd := (below_drewN (Below.refl w3.heap.size w3) 1)
    have hDY := pdisk_law.below hD3 hbd
    have hHY := (HH2.out.turned hT3 (HOFF.out f HNK.out)).below hbd
    obtain ⟨Y, hY⟩ : ∃ Y, w3.drew = Y := ⟨_, rfl⟩
    have hLvY : Lv yK w3.drew w2.heap.size (.slice A2 (Pg.page y.n y.kind y.body).length c2) (Pg.page y.n y.kind y.body) := hLv3.drew_
    have hbd' : Below w3.heap.size w3 w3.drew := hbd
    change PDisk w3.drew _ _ _ at hDY
    change PyHas w3.drew _ _ _ _ _ _ _ _ _ _ _ _ _ at hHY
    rw [hY] at hDY hHY hLvY hbd'
    have HBY := Lib.hid hbd'
    have HC : Hid (∀ w', Below Y.heap.size Y w' → w'.cell? ⟨b, 0, none⟩ = some (.pointer (some ⟨bf, 0, none⟩)) ∧ w'.cell? ⟨b, 1, none⟩ = some (.string s.name)) := fun w' hw' =>
     ⟨(hHY.below hw').cell rfl, (hHY.below hw').cell rfl⟩
    have CL2 := Lib.hid (CPL.out Y)
    have CW := Lib.hid (pwrite_any hDY (by unfold Sf.Few; have := HKA.out; have h : tf.acts ≤ tk.acts + 1 := HFA.out; show tf.acts < _; omega) s.name HH2.out.sound.name ((512 * y.n : Nat) : Int) (by have := HXX.out.2.2; unfold I64; omega) _ w2.heap.size _ hLvY (by have := hT3.size; have := HBY.out.size; omega) (fun _ q hq h => by
     have h1 := HO2.out.lt_ q hq
     have h0 := HBX.out.size
     rcases hN3.m q h with h2 | h2
     ·have := pdisk_law.lt HDK.out q (.inl h2); omega
     ·omega))
    obtain ⟨ew, tw, hwe⟩ : ∃ ew tw, Sf.write tf s.name ((512 * y.n : Nat) : Int) (Pg.page y.n y.kind y.body) = (ew, tw) := ⟨_, _, rfl⟩
    have HPE : Hid (Pp.putsE s.name tk y = (ew, tw)) := by
     unfold Hid Pp.putsE
     rw [HFE.out, if_neg (by simp)]
     exact hwe
    have HPA : Hid (tw.acts ≤ tk.acts + 2) := by
     unfold Hid
     have := Pp.putsE_acts tk s.name y
     rw [HPE.out] at this
     exact this
    rw [hwe] at CW
    obtain ⟨nm, hnm⟩ : ∃ nm, s.name = nm := ⟨_, rfl⟩
    rw [hnm] at HC CW
    clear CF hD3 hN3 hT3 hs2 hs1 hLv3 hbd hbd' hDY hHY hLvY hwe hnm
    go_wp2_with fail
    refine wp_region_m (fun w' => Below Y.heap.size Y w') 11 (by kernel_rfl) ?_
    rw [hY]
    have hH : Below Y.heap.size Y Y := Below.refl _ _
    refine zM (i := 0) (v := ?_) rfl (by kernel_rfl) (fun _ _ _ h => h) hH (Or.inl ⟨by rfl, (by intro w' hSw; have s0 := HC.out w' hSw; go_simp; first | done | with_reducible rfl)⟩) ?_
    try simp only [Act.put, zA, zC, zD, zE, zF]
    refine zM (i := 1) (v := ?_) rfl (by kernel_rfl) (fun _ _ _ h => h) hH (Or.inl ⟨by rfl, (by intro w' hSw; have s0 := HC.out w' hSw; go_simp; first | done | with_reducible rfl)⟩) ?_
    try simp only [Act.put, zA, zB, zC, zD, zE, zF]
    refine zM (i := 2) (v := ?_) rfl (by kernel_rfl) (fun _ _ _ h => h) hH (Or.inl ⟨by rfl, (by intro w' hSw; have s0 := HC.out w' hSw; go_simp; first | done | with_reducible rfl)⟩) ?_
    try simp only [Act.put, zA, zB, zC, zD, zE, zF]
    refine zM (i := 3) (v := ?_) rfl (by kernel_rfl) (fun _ _ _ h => h) hH (Or.inl ⟨by rfl, (by intro w' hSw; have s0 := HC.out w' hSw; go_simp; first | done | with_reducible rfl)⟩) ?_
    try simp only [Act.put, zA, zB, zC, zD, zE, zF]
    refine zM (i := 4) (v := ?_) rfl (by kernel_rfl) (fun _ _ _ h => h) hH (Or.inl ⟨by rfl, (by intro w' hSw; have s0 := HC.out w' hSw; go_simp; first | done | with_reducible rfl)⟩) ?_
    try simp only [Act.put, zA, zB, zC, zD, zE, zF]
    refine zM (i := 5) (v := ?_) rfl (by kernel_rfl) (fun _ _ _ h => h) hH (Or.inl ⟨by rfl, (by intro w' hSw; have s0 := HC.out w' hSw; go_simp; first | done | with_reducible rfl)⟩) ?_
    try simp only [Act.put, zA, zB, zC, zD, zE, zF]
    refine zM (i := 6) (v := ?_) rfl (by kernel_rfl) (fun _ _ _ h => h) hH (Or.inl ⟨by rfl, (by intro w' hSw; have s0 := HC.out w' hSw; go_simp; first | done | with_reducible rfl)⟩) ?_
    try simp only [Act.put, zA, zB, zC, zD, zE, zF]
    refine zM (i := 7) (v := ?_) rfl (by kernel_rfl) (fun _ _ _ h => h) hH (Or.inl ⟨by rfl, (by intro w' hSw; have s0 := HC.out w' hSw; go_simp; first | done | with_reducible rfl)⟩) ?_
    try simp only [Act.put, zA, zB, zC, zD, zE, zF]
    refine zM (i := 8) (v := ?_) rfl (by kernel_rfl) (fun _ _ _ h => h) hH (Or.inl ⟨by rfl, (by intro w' hSw; have s0 := HC.out w' hSw; go_simp; first | done | with_reducible rfl)⟩) ?_
    try simp only [Act.put, zA, zB, zC, zD, zE, zF]
    refine zM (i := 10) (v := ?_) rfl (by kernel_rfl) (fun _ _ _ h => h) hH (Or.inl ⟨by rfl, (by intro w' hSw; have s0 := HC.out w' hSw; go_simp; first | done | with_reducible rfl)⟩) ?_
    try simp only [Act.put, zA, zB, zC, zD, zE, zF]
    refine wpAnyM_next (i := 9) (by kernel_rfl) rfl (fun K hK => ?_)
    go_simp
    refine CL2.out.mono ?_
    rintro e w4 ⟨rfl, rfl⟩
    refine hK.out _ _ (.inr hH) ?_
    clear hK K CL2
    try simp only [Act.put, zA, zB, zC, zD, zE, zF]
    refine wpAnyM_next (i := 11) (by kernel_rfl) rfl (fun K hK => ?_)
    go_simp
    refine CW.out.mono ?_
    rintro e w5 ⟨rfl, f5, hD5, hN5, hT5⟩
    refine hK.out _ _ (.inl (Nat.le_refl _)) ?_
    clear hK K CW
    try simp only []
    refine wpAnyM_next (i := 12) (by kernel_rfl) rfl (fun K hK => ?_)
    go_simp
    refine hK.out _ _ (.inl (Nat.le_succ _)) ?_
    clear hK K
    try simp only [Act.put, zA, zB, zC, zD, zE, zF]
    refine wpAnyM_done (by kernel_rfl) ?_ _
    have HD5 := Lib.hid hD5
    have hs3 := HT3.out.size
    have hsy := HBY.out.size
    have HN5 : Hid (fd.Next f5 w1.heap.size) := HN3.out.trans hN5 (by omega)
    have HT5 : Hid (Turned fd.M w1 w5) := (HT3.out.trans (Turned.of_below HBY.out) (fun q hq h => absurd hq (by omega))).trans hT5 (fun q hq h => (HN3.out.m q h).elim id (fun h => by omega))
    clear hH hD5 hN5 hT5 hs3 hsy hY
    by_cases hew : ew = 0
    ·subst hew
     have HE5 : Hid (Pp.putsL s.name t pl = Pp.putsL s.name tw (pl.drop (k + 1))) := by
      unfold Hid
      rw [HE.out]
      show (if (Pp.putsE s.name tk y).1 ≠ 0 then Pp.putsE s.name tk y else Pp.putsL s.name (Pp.putsE s.name tk y).2 (pl.drop (k + 1))) = _
      rw [HPE.out, if_neg (by simp)]
     clear HE
     go_wp2
     go_roundw
     case rel => exact ⟨k + 1, tw, f5, by go_num, by omega, HE5.out, (by unfold Hid; have := HPA.out; have := HK.out; omega), HD5.out, HN5.out, HT5.out⟩
     case measure => simp [intOf]; omega
    ·have HE5 : Hid (Pp.putsL s.name t pl = (ew, tw)) := by
      unfold Hid
      rw [HE.out]
      show (if (Pp.putsE s.name tk y).1 ≠ 0 then Pp.putsE s.name tk y else Pp.putsL s.name (Pp.putsE s.name tk y).2 (pl.drop (k + 1))) = _
      rw [HPE.out, if_pos hew]
     have hd : ((ew : Int) == 0) = false := by rw [beq_eq_false_iff_ne]; omega
     clear HE
     go_wp2
     go_ret
     rw [HPL.out, HE5.out]
     exact IsDeed.behind HB1.out ⟨rfl, f5, HD5.out, HN5.out, HT5.out⟩
   ·have HE5 : Hid (Pp.putsL s.name t pl = (ef, tf)) := by
     unfold Hid
     rw [HE.out]
     have hp : Pp.putsE s.name tk y = (ef, tf) := by unfold Pp.putsE; rw [HFE.out, if_pos he]
     show (if (Pp.putsE s.name tk y).1 ≠ 0 then Pp.putsE s.name tk y else Pp.putsL s.name (Pp.putsE s.name tk y).2 (pl.drop (k + 1))) = _
     rw [hp, if_pos he]
    have hd : ((ef : Int) == 0) = false := by rw [beq_eq_false_iff_ne]; omega
    have HD3 := Lib.hid hD3
    clear HE CF hD3 hN3 hT3 hs2 hs1
    simp only
    go_wp2
    go_ret
    rw [HPL.out, HE5.out]
    exact IsDeed.behind HB1.out ⟨rfl, f3, HD3.out, HN3.out, HT3.out⟩
  ·have hki : ¬ (k : Int) < (pl.length : Int) := by omega
   have HEE : Hid (Pp.putsL s.name t pl = (0, tk)) := by
    unfold Hid
    rw [HE.out, List.drop_of_length_le (by omega)]
    rfl
   clear HE
   go_wp2
   go_ret
   rw [HPL.out, HEE.out]
   exact IsDeed.behind HB1.out ⟨rfl, f, HDK.out, HNK.out, HTK.out⟩
end
end Go.Proofs.YtiafeniflkikeaaGreat
namespace Go.Proofs.YtiafeniflkikeaaGreat
open Go.RowKit
set_option linter.unusedVariables false
section
variable {w w' : World} {fd : Fp} {b bf : Nat} {t : Sf.St}
def IsClosed (fd : Fp) (bf z : Nat) (r : Nat × Sf.St) (w w' : World) : Prop :=
 ∃ f', PDisk w' f' r.2 bf ∧ fd.Next f' w.heap.size ∧ Turned (fun q => fd.M q ∨ q = z) w w' ∧ w'.heap[z]? = some (.cells #[.int .i64 ((if r.1 ≠ 0 then r.1 else 9 : Nat) : Nat)] 24 (0, 0))
set_option maxHeartbeats 1000000 in
theorem pywclose_idle {z y q : Nat} {x : Int} (hx : x ≠ 9) (hz : w.cell? ⟨z, 0, none⟩ = some (.int .i64 x)) :
  CallsD Tryz.prog 92 #[.pointer (some ⟨z, 0, none⟩), .pointer (some ⟨y, 0, none⟩), .pointer (some ⟨q, 0, none⟩)] .returning w fun e u' w' => u' = .returning ∧ (e = .returned (.tuple #[]) ∧ w' = w) := by
 have hd : (x == 9) = false := by rw [beq_eq_false_iff_ne]; exact hx
 go_enter_d Tryz.func92, Tryz.ntmps92
 go_wp2
 first
  | go_end0
  | refine bodyPost_ret (results_none rfl _ _ _) rfl ?_
 exact ⟨rfl, rfl⟩
set_option maxHeartbeats 4000000 in
set_option maxRecDepth 100000 in
theorem pywclose_full {z y q sz : Nat} (name : ByteArray) (hn : name.size ≤ maxLen) (hD : PDisk w fd t bf) (hf : Sf.Few t) (hsz : sz < 9223372036854775808)
  (hz : w.heap[z]? = some (.cells #[.int .i64 9] 24 (0, 0))) (hy : w.cell? ⟨y, 0, none⟩ = some (.pointer (some ⟨b, 0, none⟩))) (hq : w.cell? ⟨q, 0, none⟩ = some (.int .i64 (sz : Nat)))
  (h0 : w.cell? ⟨b, 0, none⟩ = some (.pointer (some ⟨bf, 0, none⟩))) (h1 : w.cell? ⟨b, 1, none⟩ = some (.string name)) (hzf : ¬ fd.M z ∧ ¬ fd.R z) :
  CallsD Tryz.prog 92 #[.pointer (some ⟨z, 0, none⟩), .pointer (some ⟨y, 0, none⟩), .pointer (some ⟨q, 0, none⟩)] .returning w fun e u' w' => u' = .returning ∧ (e = .returned (.tuple #[]) ∧ IsClosed fd bf z (Sf.cut t name (sz : Nat)) w w') := by
 have hbd : Below w.heap.size w w.drew := below_drewN (Below.refl _ _) 1
 have hWD := pdisk_law.below hD hbd
 have c0 : w.cell? ⟨z, 0, none⟩ = some (.int .i64 9) := cell_of_row w z 0 _ _ (0, 0) hz
 have hzl : z < w.heap.size := (Array.getElem?_eq_some_iff.1 hz).1
 have hyl : y < w.heap.size := World.block_lt_of_cell? w ⟨y, 0, none⟩ hy
 have hql : q < w.heap.size := World.block_lt_of_cell? w ⟨q, 0, none⟩ hq
 have hbl : b < w.heap.size := World.block_lt_of_cell? w ⟨b, 0, none⟩ h0
 obtain ⟨X, hX⟩ : ∃ X, w.drew = X := ⟨_, rfl⟩
 rw [hX] at hbd hWD
 have HBX := Lib.hid hbd
 have HC : Hid (∀ w', Below w.heap.size w w' → w'.cell? ⟨b, 0, none⟩ = some (.pointer (some ⟨bf, 0, none⟩)) ∧ w'.cell? ⟨b, 1, none⟩ = some (.string name) ∧ w'.cell? ⟨y, 0, none⟩ = some (.pointer (some ⟨b, 0, none⟩)) ∧ w'.cell? ⟨q, 0, none⟩ = some (.int .i64 (sz : Nat))) := fun w' hw' =>
  ⟨(Turned.of_below hw').cell h0 (by show ¬ _ ≤ b; omega), (Turned.of_below hw').cell h1 (by show ¬ _ ≤ b; omega), (Turned.of_below hw').cell hy (by show ¬ _ ≤ y; omega), (Turned.of_below hw').cell hq (by show ¬ _ ≤ q; omega)⟩
 have CC := Lib.hid (pcut_any hWD hf name hn (sz : Nat) (by unfold I64; omega))
 obtain ⟨ec, tc, hce⟩ : ∃ ec tc, Sf.cut t name (sz : Nat) = (ec, tc) := ⟨_, _, rfl⟩
 rw [hce] at CC ⊢
 have HZ := Lib.hid (And.intro hz (And.intro hzl hzf))
 clear hD hf hn h0 h1 hbd hWD hce hy hq hz hzl hyl hql hbl hzf hsz
 go_enter_d Tryz.func92, Tryz.ntmps92
 go_wp2_with fail
 refine wp_region_m (fun w' => Below w.heap.size w w') 9 (by kernel_rfl) ?_
 rw [hX]
 have hH : Below w.heap.size w X := HBX.out
 refine zM (i := 0) (v := ?_) rfl (by kernel_rfl) (fun _ _ _ h => h) hH (Or.inl ⟨by rfl, (by intro w' hSw; have s0 := HC.out w' hSw; go_simp; first | done | with_reducible rfl)⟩) ?_
 try simp only [Act.put, zA, zC, zD, zE, zF]
 refine zM (i := 1) (v := ?_) rfl (by kernel_rfl) (fun _ _ _ h => h) hH (Or.inl ⟨by rfl, (by intro w' hSw; have s0 := HC.out w' hSw; go_simp; first | done | with_reducible rfl)⟩) ?_
 try simp only [Act.put, zA, zB, zC, zD, zE, zF]
 refine zM (i := 2) (v := ?_) rfl (by kernel_rfl) (fun _ _ _ h => h) hH (Or.inl ⟨by rfl, (by intro w' hSw; have s0 := HC.out w' hSw; go_simp; first | done | with_reducible rfl)⟩) ?_
 try simp only [Act.put, zA, zB, zC, zD, zE, zF]
 refine zM (i := 3) (v := ?_) rfl (by kernel_rfl) (fun _ _ _ h => h) hH (Or.inl ⟨by rfl, (by intro w' hSw; have s0 := HC.out w' hSw; go_simp; first | done | with_reducible rfl)⟩) ?_
 try simp only [Act.put, zA, zB, zC, zD, zE, zF]
 refine zM (i := 4) (v := ?_) rfl (by kernel_rfl) (fun _ _ _ h => h) hH (Or.inl ⟨by rfl, (by intro w' hSw; have s0 := HC.out w' hSw; go_simp; first | done | with_reducible rfl)⟩) ?_
 try simp only [Act.put, zA, zB, zC, zD, zE, zF]
 refine zM (i := 5) (v := ?_) rfl (by kernel_rfl) (fun _ _ _ h => h) hH (Or.inl ⟨by rfl, (by intro w' hSw; have s0 := HC.out w' hSw; go_simp; first | done | with_reducible rfl)⟩) ?_
 try simp only [Act.put, zA, zB, zC, zD, zE, zF]
 refine zM (i := 6) (v := ?_) rfl (by kernel_rfl) (fun _ _ _ h => h) hH (Or.inl ⟨by rfl, (by intro w' hSw; have s0 := HC.out w' hSw; go_simp; first | done | with_reducible rfl)⟩) ?_
 try simp only [Act.put, zA, zB, zC, zD, zE, zF]
 refine zM (i := 7) (v := ?_) rfl (by kernel_rfl) (fun _ _ _ h => h) hH (Or.inl ⟨by rfl, (by intro w' hSw; have s0 := HC.out w' hSw; go_simp; first | done | with_reducible rfl)⟩) ?_
 try simp only [Act.put, zA, zB, zC, zD, zE, zF]
 refine zM (i := 8) (v := ?_) rfl (by kernel_rfl) (fun _ _ _ h => h) hH (Or.inl ⟨by rfl, (by intro w' hSw; have s0 := HC.out w' hSw; go_simp; first | done | with_reducible rfl)⟩) ?_
 try simp only [Act.put, zA, zB, zC, zD, zE, zF]
 refine wpAnyM_next (i := 9) (by kernel_rfl) rfl (fun K hK => ?_)
 go_simp
 refine CC.out.mono ?_
 rintro e w1 ⟨rfl, f1, hD1, hN1, hT1⟩
 refine hK.out _ _ (.inl (Nat.le_refl _)) ?_
 clear hK K CC
 try simp only []
 refine wpAnyM_next (i := 10) (by kernel_rfl) rfl (fun K hK => ?_)
 go_simp
 refine hK.out _ _ (.inl (Nat.le_succ _)) ?_
 clear hK K
 try simp only [Act.put, zA, zB, zC, zD, zE, zF]
 refine wpAnyM_done (by kernel_rfl) ?_ _
 have HD1 := Lib.hid hD1
 have hsx := HBX.out.size
 have HN1 : Hid (fd.Next f1 w.heap.size) := hN1.behind hsx
 have HT1 : Hid (Turned fd.M w w1) := ((Turned.of_below HBX.out).mono (fun q hq h => absurd hq (by omega))).trans hT1 (fun _ _ h => h)
 have hz1 : w1.heap[z]? = some (.cells #[.int .i64 9] 24 (0, 0)) := (HT1.out.block z HZ.out.2.1 HZ.out.2.2.1).trans HZ.out.1
 have HZ1 := Lib.hid hz1
 clear hH hD1 hN1 hT1 hsx hX hz1
 by_cases hec : ec = 0
 ·subst hec
  go_wp2
  first
   | go_end0
   | refine bodyPost_ret (results_none rfl _ _ _) rfl ?_
  exact ⟨rfl, f1, HD1.out, HN1.out, HT1.out.mono (fun _ _ h => .inl h), HZ1.out⟩
 ·have hd : ((ec : Int) == 0) = false := by rw [beq_eq_false_iff_ne]; omega
  have fz : w1.frozen? ⟨z, 0, none⟩ = false := frozen_of_row _ z 0 _ _ HZ1.out
  have d1 : w1.cell? ⟨z, 0, none⟩ = some (.int .i64 9) := cell_of_row w1 z 0 _ _ (0, 0) HZ1.out
  go_wp2
  first
   | go_end0
   | refine bodyPost_ret (results_none rfl _ _ _) rfl ?_
  have hT : Turned (fun q => q = z) w1 (w1.setCell ⟨z, 0, none⟩ (.int .i64 (ec : Nat))) := (Turned.refl (fun q => q = z) w1).setCell (p := ⟨z, 0, none⟩) (fun _ => rfl) _
  refine ⟨rfl, f1, pdisk_law.turned HD1.out hT (fun q hq => ?_), HN1.out, (HT1.out.mono (fun _ _ h => .inl h)).trans hT (fun _ _ h => .inr h), ?_⟩
  ·obtain ⟨_, g1, g2, g3⟩ := HZ.out
   subst hq
   exact ⟨fun h => (HN1.out.m q h).elim g2 (fun h => by omega), fun h => (HN1.out.r q h).elim g3 (fun h => by omega)⟩
  ·rw [heap_setCell_same _ z 0 _ _ _ HZ1.out]
   simp [hec]
end
end Go.Proofs.YtiafeniflkikeaaGreat
