/-
  RNdN: stookref18.Get, of whatever kind.
-/
import Derived.Test.YtlefkaoibokjdaaPc26
namespace Go.Proofs.Ytlefkaoibokjdaa
open Go.RowKit
set_option linter.unusedVariables false
set_option maxHeartbeats 4000000 in
set_option maxRecDepth 100000 in
theorem rndget_any (kind : Nat) (v : Value) (l : List Nat) (B : Nat) (w : World) (hv : Bv w B v l) (hB : B ≤ w.heap.size) (hsz : l.length ≤ 140737488355328) :
    Calls Try.prog 18 #[.int .u8 (kind : Nat), v] w (IsNdE (Nd.getE kind l) w) := by
  by_cases h1 : kind = 1
  · exact rndget1_any kind h1 v l B w hv hB hsz
  by_cases h2 : kind = 2
  · exact rndget2_any kind h2 v l B w hv hB hsz
  have HE : Hid (Nd.getE kind l = (Nd.zero, 2)) := if_pos ⟨h1, h2⟩
  have hz := (zero_of_info nd_zero).1
  obtain ⟨W, hW⟩ : ∃ W, w.alloc (.cells ndZ 26) = W := ⟨_, rfl⟩
  have hbW : Below w.heap.size w W := by rw [← hW]; exact (Below.refl _ _).alloc (Nat.le_refl _) _
  have hrW : Rw W w.heap.size 26 ndZ := by rw [← hW]; exact Rw.new w _ _
  have HB := Lib.hid hbW
  have HR := Lib.hid hrW
  have HSN : Hid ((Try.prog.info? 26).map (·.size) = some ndZ.size) := by unfold Hid; kernel_rfl
  have HZ1 : Hid (ndZ.all (·.oneCell') = true) := by unfold Hid; simp [ndZ, Value.oneCell']
  have hb0 := nd_built0
  have q1 : (((kind : Nat) : Int) != 1) = true := by rw [bne_iff_ne]; omega
  have q2 : (((kind : Nat) : Int) != 2) = true := by rw [bne_iff_ne]; omega
  clear hv hB hsz hbW hrW h1 h2
  obtain ⟨Z, hZ⟩ : ∃ Z, ndZ = Z := ⟨_, rfl⟩
  have HZE := Lib.hid hZ
  rw [hZ] at hW HR HSN HZ1 hz hb0
  clear hZ
  go_enter Try.func18, Try.ntmps18
  go_wp2_with (first
    | ((with_reducible refine gate_build 26 ?_); refine wpList_build_atT rfl _ #[] rfl Z ?hf ?_; (case hf => first | exact hb0 | (rw [← hb0]; congr 1; kernel_rfl)))
    | (refine wpList_store_row rfl _ _ _ rfl w.heap.size Z rfl rfl 26 Z HR.out HSN.out rfl HZ1.out ?_))
  exact IsNdE.ret0 rfl rfl rfl rfl (by have := HR.out.row Z; rw [← HZE.out] at this ⊢; exact this) HE.out (below_setRow HB.out (Nat.le_refl _) _)
end Go.Proofs.Ytlefkaoibokjdaa
