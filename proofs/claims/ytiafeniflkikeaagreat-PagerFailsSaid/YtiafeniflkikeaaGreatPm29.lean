/- Parts of the proof. -/
import Derived.Test.YtiafeniflkikeaaGreatPm13
import Derived.Test.YtiafeniflkikeaaGreatPm23
import Derived.Test.YtiafeniflkikeaaGreatPm28
import Derived.Test.YtiafeniflkikeaaGreatPm12
import Derived.Shelf.SlIterI.Nil
import Derived.Shelf.SortM.Plain
import Derived.Shelf.SortM.SortNone
import Derived.Test.YtiafeniflkikeaaGreatRows
import Derived.Test.YtiafeniflkikeaaGreatChecked
import Derived.Test.YtiafeniflkikeaaGreatPm17
import Derived.Test.YtiafeniflkikeaaGreatPm15
import Derived.Test.YtiafeniflkikeaaGreatPm06
import Derived.Deep.QuietTactic
import Derived.BigQuiet
namespace Go.Proofs.YtiafeniflkikeaaGreat
open Go.RowKit
set_option linter.unusedVariables false
def Pp.fillE (t : Sf.St) (name : ByteArray) (at_ : Nat) : Nat × Sf.St :=
 if (Sf.size t name).2 ≠ 0 then ((Sf.size t name).2, t) else if at_ ≤ (Sf.size t name).1 then (0, t) else Sf.append t name (noughts (at_ - (Sf.size t name).1))
section
variable {w w' : World} {fp fd : Fp} {s : Pp.S} {F : List Nat} {b bf U D P H last frm : Nat} {fP : Int → Option RawU} {fH : Int → Option RawH} {t : Sf.St}
theorem IsDeed.same (hD : PDisk w fd t bf) {w' : World} (hb : Below w.heap.size w w') {e : Nat} : IsDeed PDisk fd bf (e, t) w (.returned (.int .i64 (e : Nat))) w' :=
 ⟨rfl, fd, pdisk_law.below hD hb, Fp.Next.refl _ _, (Turned.of_below hb).mono (fun q hq h => absurd hq (by omega))⟩
theorem Fp.Next.behind {f g : Fp} {n m : Nat} (h : f.Next g n) (hm : m ≤ n) : f.Next g m :=
 ⟨fun q hq => (h.m q hq).elim .inl (fun h => .inr (by omega)), fun q hq => (h.r q hq).elim .inl (fun h => .inr (by omega))⟩
theorem IsDeed.behind {r : Nat × Sf.St} {e : Ending} {w1 : World} (hb : Below w.heap.size w w1) (h : IsDeed PDisk fd bf r w1 e w') : IsDeed PDisk fd bf r w e w' := by
 obtain ⟨h1, f', h2, h3, h4⟩ := h
 exact ⟨h1, f', h2, h3.behind hb.size, Turned.trans ((Turned.of_below hb).mono (fun q hq h => absurd hq (by omega))) h4 (fun _ _ h => h)⟩
set_option maxHeartbeats 4000000 in
set_option maxRecDepth 100000 in
theorem pyfill_any (name : ByteArray) (hn : name.size ≤ maxLen) (h0 : w.cell? ⟨b, 0, none⟩ = some (.pointer (some ⟨bf, 0, none⟩))) (h1 : w.cell? ⟨b, 1, none⟩ = some (.string name)) (hbl : b < w.heap.size)
  (hD : PDisk w fd t bf) (hf : Sf.Few t) (a : Nat) (ha : a ≤ 33554432) :
  Calls Tryz.prog 120 #[.pointer (some ⟨b, 0, none⟩), .int .i64 (a : Nat)] w (IsDeed PDisk fd bf (Pp.fillE t name a) w) := by
 have hbd : Below w.heap.size w w.drew := below_drewN (Below.refl _ _) 1
 have hWD := pdisk_law.below hD hbd
 obtain ⟨X, hX⟩ : ∃ X, w.drew = X := ⟨_, rfl⟩
 rw [hX] at hbd hWD
 have hbx : b < X.heap.size := by have := hbd.size; omega
 have HX0 : Hid (X.cell? ⟨b, 0, none⟩ = some (.pointer (some ⟨bf, 0, none⟩)) ∧ X.cell? ⟨b, 1, none⟩ = some (.string name)) := ⟨(Turned.of_below hbd).cell h0 (by show ¬ _ ≤ b; omega), (Turned.of_below hbd).cell h1 (by show ¬ _ ≤ b; omega)⟩
 have HBX := Lib.hid hbd
 have HC : Hid (∀ w', Below X.heap.size X w' → w'.cell? ⟨b, 0, none⟩ = some (.pointer (some ⟨bf, 0, none⟩)) ∧ w'.cell? ⟨b, 1, none⟩ = some (.string name)) := fun w' hw' =>
  ⟨(Turned.of_below hw').cell HX0.out.1 (by show ¬ _ ≤ b; omega), (Turned.of_below hw').cell HX0.out.2 (by show ¬ _ ≤ b; omega)⟩
 have CS := Lib.hid (psizeOf_any hWD name hn)
 obtain ⟨sz, es, hse⟩ : ∃ sz es, Sf.size t name = (sz, es) := ⟨_, _, rfl⟩
 rw [hse] at CS
 have HE : Hid (Pp.fillE t name a = if es ≠ 0 then (es, t) else if a ≤ sz then (0, t) else Sf.append t name (noughts (a - sz))) := by unfold Hid Pp.fillE; rw [hse]
 have HDX := Lib.hid hWD
 have HD := Lib.hid hD
 have HF := Lib.hid (And.intro hf hn)
 clear hD hf hn h0 h1 hbd hWD hse hbl hbx
 go_enter Tryz.func120, Tryz.ntmps120
 go_wp2_with fail
 refine wp_region_m (fun w' => Below X.heap.size X w') 14 (by kernel_rfl) ?_
 rw [hX]
 have hH : Below X.heap.size X X := Below.refl _ _
 refine zM (i := 0) (v := ?_) rfl (by kernel_rfl) (fun _ _ _ h => h) hH (Or.inl ⟨by rfl, (by intro w' hSw; have s0 := HC.out w' hSw; go_simp; first | done | with_reducible rfl)⟩) ?_
 try simp only [Act.put, zA, zC, zD, zE, zF]
 refine zM (i := 1) (v := ?_) rfl (by kernel_rfl) (fun _ _ _ h => h) hH (Or.inl ⟨by rfl, (by intro w' hSw; have s0 := HC.out w' hSw; go_simp; first | done | with_reducible rfl)⟩) ?_
 try simp only [Act.put, zA, zB, zC, zD, zE, zF]
 refine zM (i := 2) (v := ?_) rfl (by kernel_rfl) (fun _ _ _ h => h) hH (Or.inl ⟨by rfl, (by intro w' hSw; have s0 := HC.out w' hSw; go_simp; first | done | with_reducible rfl)⟩) ?_
 try simp only [Act.put, zA, zB, zC, zD, zE, zF]
 refine zM (i := 3) (v := ?_) rfl (by kernel_rfl) (fun _ _ _ h => h) hH (Or.inl ⟨by rfl, (by intro w' hSw; have s0 := HC.out w' hSw; go_simp; first | done | with_reducible rfl)⟩) ?_
 try simp only [Act.put, zA, zB, zC, zD, zE, zF]
 refine zM (i := 4) (v := ?_) rfl (by kernel_rfl) (fun _ _ _ h => h) hH (Or.inl ⟨by rfl, (by intro w' hSw; have s0 := HC.out w' hSw; go_simp; first | done | with_reducible rfl)⟩) ?_
 try simp only [Act.put, zA, zB, zC, zD, zE, zF]
 refine zM (i := 5) (v := ?_) rfl (by kernel_rfl) (fun _ _ _ h => h) hH (Or.inl ⟨by rfl, (by intro w' hSw; have s0 := HC.out w' hSw; go_simp; first | done | with_reducible rfl)⟩) ?_
 try simp only [Act.put, zA, zB, zC, zD, zE, zF]
 refine zM (i := 6) (v := ?_) rfl (by kernel_rfl) (fun _ _ _ h => h) hH (Or.inl ⟨by rfl, (by intro w' hSw; have s0 := HC.out w' hSw; go_simp; first | done | with_reducible rfl)⟩) ?_
 try simp only [Act.put, zA, zB, zC, zD, zE, zF]
 refine zM (i := 7) (v := ?_) rfl (by kernel_rfl) (fun _ _ _ h => h) hH (Or.inl ⟨by rfl, (by intro w' hSw; have s0 := HC.out w' hSw; go_simp; first | done | with_reducible rfl)⟩) ?_
 try simp only [Act.put, zA, zB, zC, zD, zE, zF]
 refine wpAnyM_next (i := 8) (by kernel_rfl) rfl (fun K hK => ?_)
 go_simp
 refine CS.out.mono ?_
 rintro e w1 ⟨rfl, b1⟩
 refine hK.out _ _ (.inr b1) ?_
 clear hK K CS
 try simp only []
 refine zM (i := 9) (v := ?_) rfl (by kernel_rfl) (fun _ _ _ h => h) b1 (Or.inl ⟨by rfl, (by intro w' hSw; skip; go_simp; first | done | with_reducible rfl)⟩) ?_
 try simp only [Act.put, zA, zB, zC, zD, zE, zF]
 refine zM (i := 10) (v := ?_) rfl (by kernel_rfl) (fun _ _ _ h => h) b1 (Or.inl ⟨by rfl, (by intro w' hSw; skip; go_simp; first | done | with_reducible rfl)⟩) ?_
 try simp only [Act.put, zA, zB, zC, zD, zE, zF]
 refine zM (i := 11) (v := ?_) rfl (by kernel_rfl) (fun _ _ _ h => h) b1 (Or.inl ⟨by rfl, (by intro w' hSw; skip; go_simp; first | done | with_reducible rfl)⟩) ?_
 try simp only [Act.put, zA, zB, zC, zD, zE, zF]
 refine zM (i := 12) (v := ?_) rfl (by kernel_rfl) (fun _ _ _ h => h) b1 (Or.inl ⟨by rfl, (by intro w' hSw; skip; go_simp; first | done | with_reducible rfl)⟩) ?_
 try simp only [Act.put, zA, zB, zC, zD, zE, zF]
 refine zM (i := 13) (v := ?_) rfl (by kernel_rfl) (fun _ _ _ h => h) b1 (Or.inl ⟨by rfl, (by intro w' hSw; skip; go_simp; first | done | with_reducible rfl)⟩) ?_
 try simp only [Act.put, zA, zB, zC, zD, zE, zF]
 refine wpAnyM_done (by kernel_rfl) ?_ _
 have HB1 := Lib.hid b1
 have HD1 := Lib.hid (pdisk_law.below HDX.out b1)
 have HBW := Lib.hid (HBX.out.trans (b1.mono HBX.out.size))
 clear hH b1 hX
 by_cases he : es = 0
 ·subst he
  have HE1 := HE.out
  rw [if_neg (by simp)] at HE1
  by_cases hle : a ≤ sz
  ·rw [if_pos hle] at HE1
   have HE2 := Lib.hid HE1
   have hd : decide ((a : Int) ≤ (sz : Int)) = true := decide_eq_true (by omega)
   clear HE1 HE
   go_wp2
   go_ret
   rw [HE2.out]
   exact IsDeed.same HD.out HBW.out
  ·rw [if_neg hle] at HE1
   have HE2 := Lib.hid HE1
   have hd : decide ((a : Int) ≤ (sz : Int)) = false := decide_eq_false (by omega)
   have hwr : IntKind.i64.wrap ((a : Int) - (sz : Int)) = ((a - sz : Nat) : Int) := by rw [IntKind.wrap_i64]; omega
   have hbd2 : Below w1.heap.size w1 w1.drew := below_drewN (Below.refl _ _) 1
   obtain ⟨Y, hY⟩ : ∃ Y, w1.drew = Y := ⟨_, rfl⟩
   rw [hY] at hbd2
   obtain ⟨Z, hmk, hO, hg⟩ := run_make_l yK Y Y.heap.size .i64 .i64 (a - sz) (a - sz) (Nat.le_refl _) (by show 1 * _ ≤ _; omega) (by simp only [maxLen]; omega) (Nat.le_refl _)
   have hmk : (Instr.makeSlice 40 (.int .i64 ((a - sz : Nat) : Int)) (.int .i64 ((a - sz : Nat) : Int))).run Tryz.prog Y = .ok (.slice (some ⟨Y.heap.size, 0, none⟩) (a - sz) (a - sz)) Z := hmk
   have hYZ : Below Y.heap.size Y Z := (Below.refl _ _).grown hg (Nat.le_refl _) (fun j hj => by cases hj)
   have HBY := Lib.hid hbd2
   have HBZ := Lib.hid hYZ
   have HC2 : Hid (∀ w', Below Y.heap.size Y w' → w'.cell? ⟨b, 0, none⟩ = some (.pointer (some ⟨bf, 0, none⟩)) ∧ w'.cell? ⟨b, 1, none⟩ = some (.string name)) := fun w' hw' =>
    HC.out w' ((HB1.out.trans (HBY.out.mono HB1.out.size)).trans (hw'.mono (by have := HB1.out.size; have := HBY.out.size; omega)))
   have HOZ : Hid (OwnL yK Z Y.heap.size (.slice (some ⟨Y.heap.size, 0, none⟩) (a - sz) (a - sz)) (noughts (a - sz))) := hO
   have HDZ := Lib.hid (pdisk_law.below (pdisk_law.below HD1.out HBY.out) HBZ.out)
   have HLT := Lib.hid (pdisk_law.lt (pdisk_law.below HD1.out HBY.out))
   have CA := Lib.hid (pappend_any HDZ.out HF.out.1 name HF.out.2 _ Z.heap.size (noughts (a - sz)) HOZ.out.form_ (Nat.le_refl _) (fun _ k hk hm => by have := (OwnL.lt_ HOZ.out k hk).1; have := HLT.out k (.inl hm); omega))
   rw [← HE2.out] at CA
   clear HE1 HE hO hg hbd2
   go_wp2_with fail
   refine wp_region_m (fun w' => Below Y.heap.size Y w') 12 (by kernel_rfl) ?_
   rw [hY]
   have hH : Below Y.heap.size Y Y := Below.refl _ _
   refine zM (i := 0) (v := ?_) rfl (by kernel_rfl) (fun _ _ _ h => h) hH (Or.inl ⟨by rfl, (by intro w' hSw; have s0 := HC2.out w' hSw; go_simp; first | done | with_reducible rfl)⟩) ?_
   try simp only [Act.put, zA, zC, zD, zE, zF]
   refine zM (i := 1) (v := ?_) rfl (by kernel_rfl) (fun _ _ _ h => h) hH (Or.inl ⟨by rfl, (by intro w' hSw; have s0 := HC2.out w' hSw; go_simp; first | done | with_reducible rfl)⟩) ?_
   try simp only [Act.put, zA, zB, zC, zD, zE, zF]
   refine zM (i := 2) (v := ?_) rfl (by kernel_rfl) (fun _ _ _ h => h) hH (Or.inl ⟨by rfl, (by intro w' hSw; have s0 := HC2.out w' hSw; go_simp; first | done | with_reducible rfl)⟩) ?_
   try simp only [Act.put, zA, zB, zC, zD, zE, zF]
   refine zM (i := 3) (v := ?_) rfl (by kernel_rfl) (fun _ _ _ h => h) hH (Or.inl ⟨by rfl, (by intro w' hSw; have s0 := HC2.out w' hSw; go_simp; first | done | with_reducible rfl)⟩) ?_
   try simp only [Act.put, zA, zB, zC, zD, zE, zF]
   refine zM (i := 4) (v := ?_) rfl (by kernel_rfl) (fun _ _ _ h => h) hH (Or.inl ⟨by rfl, (by intro w' hSw; have s0 := HC2.out w' hSw; go_simp; first | done | with_reducible rfl)⟩) ?_
   try simp only [Act.put, zA, zB, zC, zD, zE, zF]
   refine zM (i := 5) (v := ?_) rfl (by kernel_rfl) (fun _ _ _ h => h) hH (Or.inl ⟨by rfl, (by intro w' hSw; have s0 := HC2.out w' hSw; go_simp; first | done | with_reducible rfl)⟩) ?_
   try simp only [Act.put, zA, zB, zC, zD, zE, zF]
   refine zM (i := 6) (v := ?_) rfl (by kernel_rfl) (fun _ _ _ h => h) hH (Or.inl ⟨by rfl, (by intro w' hSw; have s0 := HC2.out w' hSw; go_simp; first | done | with_reducible rfl)⟩) ?_
   try simp only [Act.put, zA, zB, zC, zD, zE, zF]
   refine zM (i := 7) (v := ?_) rfl (by kernel_rfl) (fun _ _ _ h => h) hH (Or.inl ⟨by rfl, (by intro w' hSw; have s0 := HC2.out w' hSw; go_simp; first | done | with_reducible rfl)⟩) ?_
   try simp only [Act.put, zA, zB, zC, zD, zE, zF]
   refine zM (i := 8) (v := ?_) rfl (by kernel_rfl) (fun _ _ _ h => h) hH (Or.inl ⟨by rfl, (by intro w' hSw; have s0 := HC2.out w' hSw; go_simp; first | done | with_reducible rfl)⟩) ?_
   try simp only [Act.put, zA, zB, zC, zD, zE, zF]
   refine zM (i := 9) (v := ?_) rfl (by kernel_rfl) (fun _ _ _ h => h) hH (Or.inl ⟨by rfl, (by intro w' hSw; have s0 := HC2.out w' hSw; go_simp; first | done | with_reducible rfl)⟩) ?_
   try simp only [Act.put, zA, zB, zC, zD, zE, zF]
   refine zM (i := 10) (v := ?_) rfl (by kernel_rfl) (fun _ _ _ h => h) hH (Or.inl ⟨by rfl, (by intro w' hSw; have s0 := HC2.out w' hSw; go_simp; first | done | with_reducible rfl)⟩) ?_
   try simp only [Act.put, zA, zB, zC, zD, zE, zF]
   refine wpAnyM_next (i := 11) (by kernel_rfl) rfl (fun K hK => ?_)
   go_simp
   refine hK.out _ _ (.inr hYZ) ?_
   clear hK K
   try simp only [Act.put, zA, zB, zC, zD, zE, zF]
   refine wpAnyM_next (i := 12) (by kernel_rfl) rfl (fun K hK => ?_)
   go_simp
   refine CA.out.mono ?_
   rintro e w3 ⟨rfl, f3, hD3, hN3, hT3⟩
   refine hK.out _ _ (.inl (Nat.le_refl _)) ?_
   clear hK K CA
   try simp only [Act.put, zA, zB, zC, zD, zE, zF]
   refine wpAnyM_next (i := 13) (by kernel_rfl) rfl (fun K hK => ?_)
   go_simp
   refine hK.out _ _ (.inl (Nat.le_succ _)) ?_
   clear hK K
   try simp only [Act.put, zA, zB, zC, zD, zE, zF]
   refine wpAnyM_done (by kernel_rfl) ?_ _
   have HX3 := Lib.hid (And.intro hD3 (And.intro hN3 hT3))
   clear hH hD3 hN3 hT3 hY
   try go_wp2
   go_ret
   obtain ⟨hD3, hN3, hT3⟩ := HX3.out
   have hBZ : Below w.heap.size w Z := HBW.out.trans ((HBY.out.mono HBW.out.size).trans (HBZ.out.mono (by have := HBW.out.size; have := HBY.out.size; omega)))
   exact IsDeed.behind hBZ ⟨rfl, f3, hD3, hN3, hT3⟩
 ·have HE1 := HE.out
  rw [if_pos he] at HE1
  have HE2 := Lib.hid HE1
  have hd : ((es : Int) == 0) = false := by rw [beq_eq_false_iff_ne]; omega
  clear HE1 HE
  go_wp2
  go_ret
  rw [HE2.out]
  exact IsDeed.same HD.out HBW.out
end
end Go.Proofs.YtiafeniflkikeaaGreat
namespace Go.Proofs.YtiafeniflkikeaaGreat
open Go.Shelf Go.Proofs
def keysP_ren : Go.Shelf.Ren := ⟨fun | 7 => 78 | 10 => 107 | n => n, fun | 23 => 74 | 26 => 3 | 3 => 108 | 28 => 131 | 0 => 0 | 27 => 130 | 33 => 106 | 4 => 4 | n => n, fun | n => n⟩
theorem keysP : Go.Proofs.SlLaysZI.n7 Tryz.prog keysP_ren := {
 mixed := by kernel_rfl
 f7 := ⟨Tryz.f78.name, by decide, Tryz.func78.trans (congrArg some (by kernel_rfl))⟩
 f10 := ⟨Tryz.f107.name, by decide, Tryz.func107.trans (congrArg some (by kernel_rfl))⟩
 t0 := Tryz.underlying0
 a0 := Tryz.isAgg0
 z0 := Tryz.sizeOf0
 v0 := Tryz.zeroValue0
 t4 := Tryz.underlying4
 a4 := Tryz.isAgg4
 z4 := Tryz.sizeOf4
 v4 := Tryz.zeroValue4
 t23 := Tryz.underlying74
 a23 := Tryz.isAgg74
 z23 := Tryz.sizeOf74
 v23 := Tryz.zeroValue74
 t26 := Tryz.underlying3
 a26 := Tryz.isAgg3
 z26 := Tryz.sizeOf3
 v26 := Tryz.zeroValue3
 t27 := Tryz.underlying130
 a27 := Tryz.isAgg130
 z27 := Tryz.sizeOf130
 v27 := Tryz.zeroValue130
 t28 := Tryz.underlying131
 a28 := Tryz.isAgg131
 z28 := Tryz.sizeOf131
 v28 := Tryz.zeroValue131
 t33 := Tryz.underlying106
 a33 := Tryz.isAgg106
 z33 := Tryz.sizeOf106
 v33 := Tryz.zeroValue106 }
def sortedI_ren : Go.Shelf.Ren := ⟨fun | 6 => 77 | 8 => 105 | 9 => 106 | 11 => 125 | 13 => 127 | 12 => 126 | 23 => 147 | 24 => 148 | 14 => 138 | 15 => 139 | 16 => 140 | 17 => 141 | 18 => 142 | 19 => 143 | 20 => 144 | 21 => 145 | 22 => 146 | 25 => 159 | 26 => 160 | 27 => 161 | 28 => 162 | 29 => 163 | 30 => 164 | 31 => 170 | n => n, fun | 26 => 3 | 28 => 131 | 24 => 51 | 0 => 0 | 3 => 3 | 37 => 54 | 48 => 185 | 50 => 32 | 4 => 4 | 40 => 192 | 39 => 191 | 45 => 136 | 5 => 5 | 9 => 9 | 51 => 206 | 55 => 209 | 57 => 214 | 58 => 215 | 33 => 106 | n => n, fun | n => n⟩
theorem sortedI : Go.Proofs.SlLaysZI.n6 Tryz.prog sortedI_ren := {
 mixed := by kernel_rfl
 f6 := ⟨Tryz.f77.name, by decide, Tryz.func77.trans (congrArg some (by kernel_rfl))⟩
 f8 := ⟨Tryz.f105.name, by decide, Tryz.func105.trans (congrArg some (by kernel_rfl))⟩
 f11 := ⟨Tryz.f125.name, by decide, Tryz.func125.trans (congrArg some (by kernel_rfl))⟩
 t0 := Tryz.underlying0
 a0 := Tryz.isAgg0
 z0 := Tryz.sizeOf0
 v0 := Tryz.zeroValue0
 t24 := Tryz.underlying51
 a24 := Tryz.isAgg51
 z24 := Tryz.sizeOf51
 v24 := Tryz.zeroValue51
 t26 := Tryz.underlying3
 a26 := Tryz.isAgg3
 z26 := Tryz.sizeOf3
 v26 := Tryz.zeroValue3
 t28 := Tryz.underlying131
 a28 := Tryz.isAgg131
 z28 := Tryz.sizeOf131
 v28 := Tryz.zeroValue131
 i26 := by kernel_rfl }
def sortI_ren : Go.Shelf.Ren := ⟨fun | 5 => 106 | 8 => 127 | 7 => 126 | 19 => 147 | 20 => 148 | 10 => 138 | 11 => 139 | 12 => 140 | 13 => 141 | 14 => 142 | 15 => 143 | 16 => 144 | 17 => 145 | 18 => 146 | 30 => 159 | 31 => 160 | 32 => 161 | 33 => 162 | 34 => 163 | 35 => 164 | 40 => 170 | n => n, fun | 23 => 51 | 25 => 3 | 3 => 3 | 32 => 54 | 22 => 51 | 0 => 0 | 44 => 185 | 46 => 32 | 4 => 4 | 36 => 192 | 35 => 191 | 41 => 136 | 5 => 5 | 9 => 9 | 53 => 206 | 57 => 209 | 63 => 214 | 64 => 215 | n => n, fun | n => n⟩
theorem sortI : Go.Proofs.SlLaysM.n5 Tryz.prog sortI_ren := {
 mixed := by kernel_rfl
 f5 := ⟨Tryz.f106.name, by decide, Tryz.func106.trans (congrArg some (by kernel_rfl))⟩
 f7 := ⟨Tryz.f126.name, by decide, Tryz.func126.trans (congrArg some (by kernel_rfl))⟩
 f8 := Tryz.func127.trans (congrArg some (by kernel_rfl))
 f10 := ⟨Tryz.f138.name, by decide, Tryz.func138.trans (congrArg some (by kernel_rfl))⟩
 f11 := ⟨Tryz.f139.name, by decide, Tryz.func139.trans (congrArg some (by kernel_rfl))⟩
 f12 := ⟨Tryz.f140.name, by decide, Tryz.func140.trans (congrArg some (by kernel_rfl))⟩
 f13 := ⟨Tryz.f141.name, by decide, Tryz.func141.trans (congrArg some (by kernel_rfl))⟩
 f14 := ⟨Tryz.f142.name, by decide, Tryz.func142.trans (congrArg some (by kernel_rfl))⟩
 f15 := ⟨Tryz.f143.name, by decide, Tryz.func143.trans (congrArg some (by kernel_rfl))⟩
 f16 := ⟨Tryz.f144.name, by decide, Tryz.func144.trans (congrArg some (by kernel_rfl))⟩
 f17 := ⟨Tryz.f145.name, by decide, Tryz.func145.trans (congrArg some (by kernel_rfl))⟩
 f18 := ⟨Tryz.f146.name, by decide, Tryz.func146.trans (congrArg some (by kernel_rfl))⟩
 f19 := Tryz.func147.trans (congrArg some (by kernel_rfl))
 f20 := Tryz.func148.trans (congrArg some (by kernel_rfl))
 f30 := ⟨Tryz.f159.name, by decide, Tryz.func159.trans (congrArg some (by kernel_rfl))⟩
 f31 := Tryz.func160.trans (congrArg some (by kernel_rfl))
 f32 := Tryz.func161.trans (congrArg some (by kernel_rfl))
 f33 := ⟨Tryz.f162.name, by decide, Tryz.func162.trans (congrArg some (by kernel_rfl))⟩
 f34 := ⟨Tryz.f163.name, by decide, Tryz.func163.trans (congrArg some (by kernel_rfl))⟩
 f35 := ⟨Tryz.f164.name, by decide, Tryz.func164.trans (congrArg some (by kernel_rfl))⟩
 f40 := ⟨Tryz.f170.name, by decide, Tryz.func170.trans (congrArg some (by kernel_rfl))⟩
 t0 := Tryz.underlying0
 a0 := Tryz.isAgg0
 z0 := Tryz.sizeOf0
 v0 := Tryz.zeroValue0
 t3 := Tryz.underlying3
 a3 := Tryz.isAgg3
 z3 := Tryz.sizeOf3
 v3 := Tryz.zeroValue3
 t4 := Tryz.underlying4
 a4 := Tryz.isAgg4
 z4 := Tryz.sizeOf4
 v4 := Tryz.zeroValue4
 t5 := Tryz.underlying5
 a5 := Tryz.isAgg5
 z5 := Tryz.sizeOf5
 v5 := Tryz.zeroValue5
 t9 := Tryz.underlying9
 a9 := Tryz.isAgg9
 z9 := Tryz.sizeOf9
 v9 := Tryz.zeroValue9
 t22 := Tryz.underlying51
 a22 := Tryz.isAgg51
 z22 := Tryz.sizeOf51
 v22 := Tryz.zeroValue51
 t23 := Tryz.underlying51
 a23 := Tryz.isAgg51
 z23 := Tryz.sizeOf51
 v23 := Tryz.zeroValue51
 t25 := Tryz.underlying3
 a25 := Tryz.isAgg3
 z25 := Tryz.sizeOf3
 v25 := Tryz.zeroValue3
 t32 := Tryz.underlying54
 a32 := Tryz.isAgg54
 z32 := Tryz.sizeOf54
 v32 := Tryz.zeroValue54
 t35 := Tryz.underlying191
 a35 := Tryz.isAgg191
 z35 := Tryz.sizeOf191
 v35 := Tryz.zeroValue191
 t36 := Tryz.underlying192
 a36 := Tryz.isAgg192
 z36 := Tryz.sizeOf192
 v36 := Tryz.zeroValue192
 t41 := Tryz.underlying136
 a41 := Tryz.isAgg136
 z41 := Tryz.sizeOf136
 v41 := Tryz.zeroValue136
 t44 := Tryz.underlying185
 a44 := Tryz.isAgg185
 z44 := Tryz.sizeOf185
 v44 := Tryz.zeroValue185
 t46 := Tryz.underlying32
 a46 := Tryz.isAgg32
 z46 := Tryz.sizeOf32
 v46 := Tryz.zeroValue32
 t53 := Tryz.underlying206
 a53 := Tryz.isAgg206
 z53 := Tryz.sizeOf206
 v53 := Tryz.zeroValue206
 t57 := Tryz.underlying209
 a57 := Tryz.isAgg209
 z57 := Tryz.sizeOf209
 v57 := Tryz.zeroValue209
 t63 := Tryz.underlying214
 a63 := Tryz.isAgg214
 z63 := Tryz.sizeOf214
 v63 := Tryz.zeroValue214
 t64 := Tryz.underlying215
 a64 := Tryz.isAgg215
 z64 := Tryz.sizeOf215
 v64 := Tryz.zeroValue215 }
end Go.Proofs.YtiafeniflkikeaaGreat
namespace Go.Proofs.YtiafeniflkikeaaGreat
open Go.RowKit Go.Maps Go.Sort Go.Shelf Go.Proofs
set_option linter.unusedVariables false
theorem sortsZ (m : Nat) : AnyZI.SortsIn Tryz.prog sortedI_ren Fence.wide m :=
  ⟨fun blk off cap ss W hH hblk hsz => callsIn_wide.2 (AnyM.slices_Sort_int sortI blk off cap ss W hH hblk hsz),
   fun p cap W => callsIn_wide.2 (AnyM.slices_Sort_int_none sortI p cap W)⟩
theorem keysP_any (mb : Option Nat) (W : World) : CallsIn Fence.wide 5 Tryz.prog 78 #[.map mb] W fun e w' => e = .returned (.func (.func 107) #[] #[.pointer (some ⟨W.heap.size, 0, none⟩)]) ∧ w' = W.alloc (.cells #[.map mb] 74) :=
 AnyZI.keys_in keysP Fence.wide 5 trivial rfl mb W
set_option maxHeartbeats 1000000 in
theorem sortedP_any (b nn : Nat) (D0 : DataW Unit) (R : Value → Option (DataW Unit × List MemPlace)) (w : World) (hown : w.ownsMap Tryz.prog 3 R b nn D0) (hmax : Maps.size D0 ≤ maxLen) (hbytes : Maps.size D0 * 8 ≤ 140737488355328) :
  CallsIn Fence.wide 5 Tryz.prog 77 #[.func (.func 107) #[] #[.pointer (some ⟨w.heap.size, 0, none⟩)]] (w.alloc (.cells #[.map (some b)] 74)) fun e w' => ∃ (v : Value) (ss : List Int), e = .returned v ∧ ss.Perm (intKeys D0) ∧
   w'.ownsRow (w.alloc (.cells #[.map (some b)] 74)).heap.size 3 1 v ss.length ((ss.mergeSort (fun x y => decide (x ≤ y))).map encZ) ∧ Below (w.alloc (.cells #[.map (some b)] 74)).heap.size (w.alloc (.cells #[.map (some b)] 74)) w' := by
 have hbl := hown.lt
 have hseq : SeqGives Fence.wide 2 Tryz.prog 107 #[.pointer (some ⟨w.heap.size, 0, none⟩)] encZ (fun ss => ss.Perm (intKeys D0)) (Maps.size D0) (w.alloc (.cells #[.map (some b)] 74)) :=
  AnyZI.keys_gives (ρ := keysP_ren) { keysP with } Fence.wide _ trivial rfl (by omega) w.heap.size b nn D0 _ (by simp) (by simp) (by
   obtain ⟨es, clock, hb, Ft, hs, hD⟩ := hown
   exact ⟨es, clock, (Below.heap_alloc _ _ b hbl).trans hb, Ft, hs, hD⟩)
 refine (AnyZI.sorted_in sortedI Fence.wide 5 trivial trivial trivial trivial rfl (by omega) (sortsZ _) (enters_of Tryz.func106 (by kernel_rfl) rfl) 107 #[.pointer (some ⟨w.heap.size, 0, none⟩)] trivial (enters_of Tryz.func107 (by kernel_rfl) rfl) _ _ hmax hbytes _ hseq).mono ?_
 rintro e w' ⟨v, ss, h1, h2, h3, _, h4⟩
 exact ⟨v, ss, h1, h2, h3, h4⟩
theorem rising_eq {l m : List Int} (hl : l.Pairwise (· < ·)) (hm : m.Pairwise (· < ·)) (h : ∀ x, x ∈ l ↔ x ∈ m) : l = m := by
 have hp : l.Perm m := perm_of_mem (List.nodup_iff_pairwise_ne.2 (hl.imp (fun h => by omega))) (List.nodup_iff_pairwise_ne.2 (hm.imp (fun h => by omega))) h
 exact List.Perm.eq_of_pairwise (le := fun x y => x ≤ y) (fun a b _ _ h1 h2 => by omega) (hl.imp (fun h => by omega)) (hm.imp (fun h => by omega)) hp
theorem sorted_eq {ss m : List Int} (h : ss.Perm m) (hm : m.Pairwise (· < ·)) : ss.mergeSort (fun x y => decide (x ≤ y)) = m := by
 refine List.Perm.eq_of_pairwise (le := fun x y => x ≤ y) (fun a b _ _ h1 h2 => by omega) ?_ (hm.imp (fun h => by omega)) ((List.mergeSort_perm ss _).trans h)
 have := List.pairwise_mergeSort (le := fun x y : Int => decide (x ≤ y)) (fun a b c h1 h2 => by
  simp only [decide_eq_true_eq] at h1 h2 ⊢
  omega) (fun a b => by
  simp only [Bool.or_eq_true, decide_eq_true_eq]
  omega) ss
 exact this.imp (fun {a b} h => by simpa using h)
theorem numbers_rising {l : List Pa.Page} (h : Pa.Rising l) (a c : Int) : (Pa.numbers l a c).Pairwise (· < ·) := by
 unfold Pa.numbers
 rw [List.pairwise_map]
 exact (List.Pairwise.filter _ h).imp (fun h => by omega)
theorem IsMp.keysOf {β : Type} {K : MpK Tryz.prog Int β} (O : MpOk K) (hok : ∀ x, K.ok x ↔ I64 x) (hlit : ∀ x, K.lit x = .int .i64 x) {w : World} {b n : Nat} {f : Int → Option β} (h : IsMp K w b n f) (hs : Pp.Small f) :
  ∃ D, w.ownsMap Tryz.prog K.k K.read b n D ∧ (intKeys D).Perm ((Pp.ents 65536 f).map (·.1)) ∧ Maps.size D ≤ 65536 := by
 obtain ⟨D, h1, h2⟩ := h
 obtain ⟨es, rfl, hp⟩ := Tells.perm O h1 h2 (Pp.ents 65536 f) (Pp.ents_nodup _ _) (fun e he => (hok _).2 (by
  have := (Pp.ents_mem hs e.1 e.2).2 he
  have := hs _ _ this
  unfold I64; omega)) (fun x _ y => Pp.ents_mem hs x y)
 refine ⟨_, h1, ?_, ?_⟩
 ·unfold intKeys
  refine (hp.map _).trans ?_
  rw [List.map_map]
  refine List.Perm.of_eq (List.map_congr_left fun e he => ?_)
  simp only [Function.comp_apply, hlit]
  rfl
 ·rw [Maps.size_eq, hp.length_eq, List.length_map, Pp.ents_len]
  exact Pp.cnt_le _ _
section
variable {w : World} {f fp : Fp} {s : Pp.S} {F : List Nat} {b bf U D P H last frm : Nat} {fP : Int → Option RawU} {fH : Int → Option RawH}
set_option maxHeartbeats 1000000 in
set_option maxRecDepth 100000 in
theorem pypendingR_any {l : List Pa.Page} (h0 : w.cell? ⟨b, 0, none⟩ = some (.pointer (some ⟨bf, 0, none⟩))) (h11 : w.cell? ⟨b, 11, none⟩ = some (.map (some P))) (hpd : IsMp peM w P 65536 fP) (hsm : Pp.Small fP) (hri : Pa.Rising l)
  (hf2 : ∀ x ∈ l, 2 ≤ x.n ∧ x.n < 65536 ∧ (x.state = 1 ∨ x.state = 2 ∨ x.state = 3)) (hpi : ∀ k : Int, (fP k).isSome ↔ ∃ x ∈ l, (x.n : Int) = k ∧ x.state = 2) : Calls Tryz.prog 32 #[.pointer (some ⟨b, 0, none⟩)] w (IsQ1 iK (Pa.numbers l 2 2) w) := by
 have CM := Lib.hid (pymade_any h0)
 obtain ⟨D0, h1, h2, h3⟩ := IsMp.keysOf peM_ok pe_ok (fun _ => rfl) hpd (hsm)
 have HN : Hid ((Pp.ents 65536 (fP)).map (·.1) = Pa.numbers l 2 2) := rising_eq (Pp.ents_keys _ _) (numbers_rising hri _ _) (fun x => by
  have e1 : x ∈ (Pp.ents 65536 (fP)).map (·.1) ↔ ((fP) x).isSome := by
   constructor
   ·intro hx
    obtain ⟨e, he, rfl⟩ := List.mem_map.1 hx
    rw [(Pp.ents_mem (hsm) e.1 e.2).2 he]; rfl
   ·intro hx
    obtain ⟨c, hc⟩ := Option.isSome_iff_exists.1 hx
    exact List.mem_map.2 ⟨(x, c), (Pp.ents_mem (hsm) x c).1 hc, rfl⟩
  rw [e1]
  unfold Pa.numbers
  rw [List.mem_map]
  rw [hpi]
  constructor
  ·rintro ⟨y, hy, h1, h2⟩
   exact ⟨y, List.mem_filter.2 ⟨hy, by simp [Pa.isOf, h2]⟩, h1⟩
  ·rintro ⟨y, hy, h1⟩
   have := List.mem_filter.1 hy
   exact ⟨y, this.1, h1, by have h2 := this.2; simp [Pa.isOf] at h2; omega⟩)
 have CS := Lib.hid (sortedP_any P 65536 D0 peM.read w h1 (by simp only [maxLen]; omega) (by omega))
 have CK := Lib.hid (keysP_any (some P) w)
 have HK := Lib.hid h2
 have HR := Lib.hid (numbers_rising hri)
 have HF2 := Lib.hid hf2
 clear h1 h2 h3 hpd hsm hpi h0
 refine (callsIn_wide (n := 6)).1 ?_
 have hfK : Fence.wide.fn 78 := trivial
 have hfS : Fence.wide.fn 77 := trivial
 have hfM : Fence.wide.fn 56 := trivial
 have CM2 := Lib.hid ((callsIn_wide (n := 5)).2 CM.out)
 refine callsIn_of_wp Tryz.func32 rfl trivial ?_ rfl
 simp only [Tryz.ntmps32, List.size_toArray, List.length_cons, List.length_nil, Nat.reduceAdd, Nat.reduceSub, Array.replicate_succ, Array.replicate_zero, List.push_toArray, List.append_toArray, List.nil_append, List.cons_append]
 gi_wp2_with (first
  | (gi_at_call 56; refine CM2.out.mono ?_; rintro e w1 ⟨rfl, rfl⟩)
  | (gi_at_call 78; refine CK.out.mono ?_; rintro e w1 ⟨rfl, rfl⟩)
  | (gi_at_call 77; refine CS.out.mono ?_; rintro e w2 ⟨v, ss, rfl, hS, hrow, hb⟩))
 go_ret
 have hp := hS.trans HK.out
 rw [HN.out] at hp
 have hm := sorted_eq hp (HR.out _ _)
 have hlen : ss.length = (Pa.numbers l 2 2).length := hp.length_eq
 rw [hm, hlen] at hrow
 have hflat : (Pa.numbers l 2 2).map encZ = iK.flat (Pa.numbers l 2 2) := by
  induction Pa.numbers l 2 2 with
  | nil => rfl
  | cons x l ih => rw [List.map_cons, ih, flat_cons]; rfl
 rw [hflat] at hrow
 have hb2 : Below w.heap.size w w2 := ((Below.refl _ w).alloc (Nat.le_refl _) _).trans (hb.mono (by simp))
 have hok : ∀ x ∈ Pa.numbers l 2 2, iK.ok x := fun x hx => by
  unfold Pa.numbers at hx
  obtain ⟨y, hy, rfl⟩ := List.mem_map.1 hx
  have := HF2.out y (List.mem_filter.1 hy).1
  show I64 _
  unfold I64
  omega
 have hO := (OwnQ.of_row (K := iK) hok hrow).mono_ (base' := w.heap.size) (by simp)
 obtain ⟨A, c, e, _⟩ := hO.form_
 subst e
 exact ⟨A, c, rfl, hO, hb2⟩
theorem pypending_any (h : PyHas w fp s F b bf U D P H last frm fP fH) : Calls Tryz.prog 32 #[.pointer (some ⟨b, 0, none⟩)] w (IsQ1 iK (Pa.numbers s.l 2 2) w) :=
 pypendingR_any (h.cell rfl) (h.cell rfl) h.pend h.small_pend h.sound.rise h.sound.from2 h.pend_iff
end
end Go.Proofs.YtiafeniflkikeaaGreat
namespace Go.Proofs.YtiafeniflkikeaaGreat
open Go.RowKit
set_option linter.unusedVariables false
section
variable {w : World} {b H : Nat} {fH : Int → Option RawH}
set_option maxHeartbeats 1000000 in
set_option maxRecDepth 100000 in
theorem pyforget_any (h13 : w.cell? ⟨b, 13, none⟩ = some (.map (some H))) (hm : IsMp haM w H 65536 fH) (n : Int) (hn : I64 n) :
  Calls Tryz.prog 96 #[.pointer (some ⟨b, 12, none⟩), .int .i64 n] w (fun e w' => e = .returned (.tuple #[]) ∧ IsMp haM w' H 65536 (fun k => if k = n then none else fH k) ∧ w.grownBy w' (some H)) := by
 have HM := Lib.hid hm
 have hok : haM.ok n := i64_ok hn
 go_enter Tryz.func96, Tryz.ntmps96
 go_wp2_with (refine wpList_delete_mp _ haM rfl _ _ rfl H 65536 fH rfl HM.out n rfl hok ?_; intro w1 h1 g1)
 exact bodyPost_end (results_none rfl _ _ _) rfl ⟨rfl, h1, g1⟩
set_option maxHeartbeats 2000000 in
set_option maxRecDepth 100000 in
theorem pyoldest_any {last : Nat} (h13 : w.cell? ⟨b, 13, none⟩ = some (.map (some H))) (h14 : w.cell? ⟨b, 14, none⟩ = some (.int .i64 (last : Nat))) (hm : IsMp haM w H 65536 fH) (hl : last < 4611686018427387904)
  (ht : ∀ k c, fH k = some c → c.turn ≤ (last : Int)) (hs : Pp.Small fH) (hne : ∃ k c, fH k = some c) :
  Calls Tryz.prog 121 #[.pointer (some ⟨b, 12, none⟩)] w (fun e w' => ∃ k, e = .returned (.int .i64 k) ∧ (fH k).isSome ∧ Below w.heap.size w w') := by
 have HM := Lib.hid hm
 have HT := Lib.hid ht
 have HS := Lib.hid hs
 have HNE := Lib.hid hne
 have hw1 : IntKind.i64.wrap ((last : Int) + 1) = (last : Int) + 1 := by rw [IntKind.wrap_i64]; omega
 clear hm ht hs hne
 go_enter Tryz.func121, Tryz.ntmps121
 go_wp2_with fail
 go_quiet (fail)
 generalize hW : w.drewN _ = w9
 have HB9 : Hid (Below w.heap.size w w9) := by unfold Hid; rw [← hW]; exact below_drewN (Below.refl _ _) _
 have h13' : w9.cell? ⟨b, 13, none⟩ = some (.map (some H)) := by rw [← hW]; exact h13
 have HM9 : Hid (IsMp haM w9 H 65536 fH) := by unfold Hid; rw [← hW]; exact HM.out.of_block rfl
 have HS9 : Hid (w9.heap.size = w.heap.size) := by unfold Hid; rw [← hW]; rfl
 clear hW h13 h14 HM
 go_wp2_with (at_range; refine wpList_range_mp _ haM rfl _ rfl H 65536 fH rfl HM9.out ?_; intro w1 cnt0 hR _ hg hsz)
 go_frame
 have HR0 := Lib.hid hR
 have HB1 : Hid (Below w.heap.size w w1) := HB9.out.grown hg (by rw [HS9.out]; exact Nat.le_refl _) (fun j hj => by cases hj)
 clear hR hg hsz h13'
 go_loopw [3, 4] (fun u v wr => ∃ (L : Int → Bool) (cnt : Nat) (k t : Int), Hid (IsRg haM wr H w9.heap.size 65536 fH L cnt) ∧ u = .int .i64 k ∧ v = .int .i64 t ∧ Hid (Below w.heap.size w wr) ∧
  Hid ((t = (last : Int) + 1 ∧ ∀ x, L x = (fH x).isSome) ∨ (fH k).isSome)) (fun _ _ wr => wr.rangeLeft H w9.heap.size)
 case atStart =>
  exact ⟨_, cnt0, 0, (last : Int) + 1, HR0.out, rfl, rfl, HB1.out, .inl ⟨rfl, fun _ => rfl⟩⟩
 case round =>
  obtain ⟨L, cnt, k, t, HRG, rfl, rfl, HBW, HI⟩ := hrel
  clear HR0 HB1
  go_wp2_with (at_next; refine wpList_next_ha _ rfl _ rfl H w9.heap.size 65536 _ L cnt rfl HRG.out ?_ ?_)
  ·intro hl0
   go_wp2
   go_ret
   refine ⟨k, rfl, ?_, HBW.out⟩
   rcases HI.out with ⟨_, h2⟩ | h2
   ·obtain ⟨x, c, hc⟩ := HNE.out
    have h3 := hl0 x (i64_ok (by have := HS.out x c hc; unfold I64; omega))
    rw [h2 x, hc] at h3
    cases h3
   ·exact h2
  ·intro x c w1 cnt1 hx hLx hfx hrg1 hlt hg1 hs1 hen
   have hb1 : Below w.heap.size w w1 := HBW.out.grown hg1 HBW.out.size (fun j hj => by rw [← Option.some.inj hj, HS9.out]; exact Nat.le_refl _)
   have HRG1 := Lib.hid hrg1
   have HB1 := Lib.hid hb1
   have HLT := Lib.hid hlt
   have HLE := Lib.hid (HRG.out.left_eq)
   have HFX := Lib.hid hfx
   have HCT := Lib.hid (HT.out x c hfx)
   obtain ⟨⟨kd, ⟨a1, a2, a3⟩⟩, tn⟩ := c
   have HLX := Lib.hid hLx
   clear hrg1 hb1 hlt hfx hg1 hs1 hx hLx HRG
   simp only at hen HCT
   by_cases htn : tn < t
   ·have hdt : decide (tn < t) = true := decide_eq_true htn
    obtain ⟨W, hW⟩ : ∃ W, w1.alloc (.cells #[.int .u8 (kd : Nat), .slice a1 a2 a3, .int .i64 tn] 174) = W := ⟨_, rfl⟩
    have hc2 : W.cell? ⟨w1.heap.size, 2, none⟩ = some (.int .i64 tn) := by rw [← hW]; exact (Rw.new w1 _ _).cell 2
    have HBW1 : Hid (Below w1.heap.size w1 W) := by unfold Hid; rw [← hW]; exact (Below.refl _ _).alloc (Nat.le_refl _) _
    have HWE := Lib.hid hW
    clear hW
    go_wp2_with fail
    rw [HWE.out]
    go_quiet (fail)
    generalize hWR : W.drewN _ = wx
    have HBX : Hid (Below w1.heap.size w1 wx) := by unfold Hid; rw [← hWR]; exact below_drewN HBW1.out _
    clear hWR hc2
    try go_wp2
    have HRX := Lib.hid (HRG1.out.below_ HBX.out (HRG1.out.owns.lt_) (HRG1.out.lt_))
    go_roundw
    case rel => exact ⟨_, cnt1, x, tn, HRX.out, rfl, rfl, HB1.out.trans (HBX.out.mono HB1.out.size), .inr (by rw [HFX.out]; rfl)⟩
    case measure => rw [HRX.out.left_eq, HLE.out]; exact HLT.out
   ·have hdt : decide (tn < t) = false := decide_eq_false htn
    have HBX := Lib.hid ((Below.refl w1.heap.size w1).alloc (Nat.le_refl _) (.cells #[.int .u8 (kd : Nat), .slice a1 a2 a3, .int .i64 tn] 174))
    have HRX := Lib.hid (HRG1.out.below_ HBX.out (HRG1.out.owns.lt_) (HRG1.out.lt_))
    go_wp2
    go_roundw
    case rel =>
     refine ⟨_, cnt1, k, t, HRX.out, rfl, rfl, HB1.out.trans (HBX.out.mono HB1.out.size), ?_⟩
     rcases HI.out with ⟨h1, _⟩ | h2
     ·have := HCT.out; omega
     ·exact .inr h2
    case measure => rw [HRX.out.left_eq, HLE.out]; exact HLT.out
end
end Go.Proofs.YtiafeniflkikeaaGreat
