/-
  stooklaw12.works.
-/
import Derived.Test.YtapedjcchcgoeaaPkPro
import Derived.Test.YtapedjcchcgoeaaInts
import Derived.Test.YtapedjcchcgoeaaOcts
namespace Go.Proofs.Ytapedjcchcgoeaa
open Go.RowKit
set_option linter.unusedVariables false
namespace Pk
theorem put_ex : putE [5, 3, 300] = ([3, 10, 3, 210, 4], 0) := by decide +kernel
theorem get_ex : getE [3, 10, 3, 210, 4] 0 = ([5, 3, 300], 5, 0) := by decide +kernel
end Pk
set_option maxRecDepth 100000 in
set_option maxHeartbeats 2000000 in
theorem works_pk (w : World) : Calls Try.prog 14 #[] w (IsBool true w) := by
  have k3 : ∀ x ∈ [(5 : Int), 3, 300], iK.ok x := fun x hx => by
    simp at hx
    rcases hx with rfl | rfl | rfl <;> (show I64 _; simp [I64])
  have hla := Lv.build_ iK w [5, 3, 300] k3 (by simp [maxLen]) 3 rfl _ rfl _ rfl
  have hab := (Below.refl w.heap.size w).alloc (Nat.le_refl _) (.cells #[.int .i64 5, .int .i64 3, .int .i64 300] 3)
  obtain ⟨Y, hY⟩ : ∃ Y, w.alloc (.cells #[.int .i64 5, .int .i64 3, .int .i64 300] 3) = Y := ⟨_, rfl⟩
  change Lv iK (w.alloc (.cells #[.int .i64 5, .int .i64 3, .int .i64 300] 3)) _ _ _ at hla
  rw [hY] at hla hab
  have hys : Y.heap.size = w.heap.size + 1 := by rw [← hY]; simp
  have HP := Lib.hid (ppput_any [5, 3, 300] _ Y.heap.size Y (hla.mono_ (by omega)) (Nat.le_refl _))
  rw [Pk.put_ex] at HP
  have HBY := Lib.hid hab
  have HK3 := Lib.hid k3
  clear hla hab k3 hys
  go_enter Try.func14, Try.ntmps14
  go_wp2_with (fail)
  refine (HP.out).mono ?_
  rintro e w2 ⟨A2, c2, rfl, o2, b2⟩
  have F2 := Lib.hid o2.form_
  have HB2 := Lib.hid (HBY.out.trans (b2.mono HBY.out.size))
  have HG := Lib.hid (ppget_any [3, 10, 3, 210, 4] _ w2.heap.size 0 w2 F2.out (Nat.le_refl _))
  rw [Pk.get_ex] at HG
  clear HP o2 b2 HBY
  go_wp2_with (fail)
  refine (HG.out).mono ?_
  rintro e w3 ⟨A3, c3, rfl, o3, b3⟩
  have HB3 := Lib.hid (HB2.out.trans (b3.mono HB2.out.size))
  have F3 := Lib.hid ((F2.out.below_ b3 (Nat.le_refl _)).mono_ b3.size)
  have G3 := Lib.hid o3.form_
  clear HG o3 b3 HB2 F2
  have k5 : ∀ x ∈ [(3 : Nat), 10, 3, 210, 4], yK.ok x := fun x hx => by
    simp at hx
    rcases hx with rfl | rfl | rfl | rfl | rfl <;> (show _ < 256; omega)
  have hlb := Lv.build_ yK w3 [3, 10, 3, 210, 4] k5 (by simp [maxLen]) 5 rfl _ rfl _ rfl
  have hab := (Below.refl w3.heap.size w3).alloc (Nat.le_refl _) (.cells #[.int .u8 3, .int .u8 10, .int .u8 3, .int .u8 210, .int .u8 4] 5)
  obtain ⟨X, hX⟩ : ∃ X, w3.alloc (.cells #[.int .u8 3, .int .u8 10, .int .u8 3, .int .u8 210, .int .u8 4] 5) = X := ⟨_, rfl⟩
  change Lv yK (w3.alloc (.cells #[.int .u8 3, .int .u8 10, .int .u8 3, .int .u8 210, .int .u8 4] 5)) _ _ _ at hlb
  rw [hX] at hlb hab
  have HBX := Lib.hid (HB3.out.trans (hab.mono HB3.out.size))
  have FX := Lib.hid ((F3.out.below_ hab (Nat.le_refl _)).mono_ hab.size)
  have GX := Lib.hid ((G3.out.below_ hab (Nat.le_refl _)).mono_ hab.size)
  have HS := Lib.hid (octs_lv _ _ _ _ _ _ X FX.out hlb)
  simp only [decide_true] at HS
  clear hlb hab k5 F3 G3 HB3 FX
  go_wp2_with (fail)
  refine (HS.out).mono ?_
  rintro e w4 ⟨rfl, b4⟩
  have HB4 := Lib.hid (HBX.out.trans (b4.mono HBX.out.size))
  have G4 := Lib.hid ((GX.out.below_ b4 (Nat.le_refl _)).mono_ b4.size)
  clear HS b4 HBX GX
  have hla := Lv.build_ iK w4 [5, 3, 300] HK3.out (by simp [maxLen]) 3 rfl _ rfl _ rfl
  have hab := (Below.refl w4.heap.size w4).alloc (Nat.le_refl _) (.cells #[.int .i64 5, .int .i64 3, .int .i64 300] 3)
  obtain ⟨Z, hZ⟩ : ∃ Y, w4.alloc (.cells #[.int .i64 5, .int .i64 3, .int .i64 300] 3) = Y := ⟨_, rfl⟩
  change Lv iK (w4.alloc (.cells #[.int .i64 5, .int .i64 3, .int .i64 300] 3)) _ _ _ at hla
  rw [hZ] at hla hab
  have HBZ := Lib.hid (HB4.out.trans (hab.mono HB4.out.size))
  have HI := Lib.hid (ints_lv _ _ _ _ _ _ Z ((G4.out.below_ hab (Nat.le_refl _)).mono_ hab.size) hla)
  simp only [decide_true] at HI
  clear hla hab G4 HB4
  go_wp2_with (fail)
  refine (HI.out).mono ?_
  rintro e w5 ⟨rfl, b5⟩
  have HB5 := Lib.hid (HBZ.out.trans (b5.mono HBZ.out.size))
  clear HI b5
  go_wp2
  go_ret
  exact ⟨rfl, HB5.out⟩
end Go.Proofs.Ytapedjcchcgoeaa
