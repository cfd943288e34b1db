/-
  stooklaw15.lives.
-/
import Derived.Test.YtdmomnpmicagcaaPgPro
import Derived.Test.YtdmomnpmicagcaaConstL
namespace Go.Proofs.Ytdmomnpmicagcaa
open Go.RowKit
set_option linter.unusedVariables false

set_option maxRecDepth 100000 in
set_option maxHeartbeats 4000000 in
theorem lives_pg (w : World) : Calls Try.prog 11 #[] w (IsBool true w) := by
  have kc := Lib.run_convert_bytes_const (P := Try.prog) w 22 5 #[.int .u8 97, .int .u8 98] 2 2 Try.underlying22 Try.underlying5
  have hla := const_lv w [97, 98] (by decide) (by decide) _ rfl 2 rfl 5 (2, 3)
  have hab : Below w.heap.size w (w.alloc (.cells #[.int .u8 97, .int .u8 98] 5 (2, 3))) := (Below.refl _ _).alloc (Nat.le_refl _) _
  obtain ⟨Y, hY⟩ : ∃ Y, w.alloc (.cells #[.int .u8 97, .int .u8 98] 5 (2, 3)) = Y := ⟨_, rfl⟩
  change Lv yK (w.alloc (.cells #[.int .u8 97, .int .u8 98] 5 (2, 3))) _ _ _ at hla
  rw [hY] at hla hab
  change _ = Result.ok _ (w.alloc (.cells #[.int .u8 97, .int .u8 98] 5 (2, 3))) at kc
  rw [hY] at kc
  have hys : Y.heap.size = w.heap.size + 1 := by rw [← hY]; simp
  have HAB := Lib.hid hab
  have hpe := Pg.putE_ok (n := 5) (k := 7) (b := [97, 98]) (by omega) (by decide)
  have hge := (Pg.getE_put hpe).1
  have hl := Pg.page_len (n := (5 : Int).toNat) (k := 7) (b := [97, 98]) (by decide)
  have e4 : (Pg.page (5 : Int).toNat 7 [97, 98])[4]? = some 5 := rfl
  have e8 : (Pg.page (5 : Int).toNat 7 [97, 98])[8]? = some 7 := rfl
  have e10 : (Pg.page (5 : Int).toNat 7 [97, 98])[10]? = some 2 := rfl
  obtain ⟨p, hp⟩ : ∃ p, Pg.page (5 : Int).toNat 7 [97, 98] = p := ⟨_, rfl⟩
  rw [hp] at hpe hge hl e4 e8 e10
  have HP := Lib.hid (ppgput_any 5 7 _ [97, 98] Y.heap.size Y (by omega) (hla.mono_ (by omega)) (Nat.le_refl _))
  rw [hpe] at HP
  have HGE := Lib.hid hge
  have HL := Lib.hid hl
  have H4 := Lib.hid e4
  have H8 := Lib.hid e8
  have H10 := Lib.hid e10
  clear hpe hge hl e4 e8 e10 hp hla hab hys
  go_enter Try.func11, Try.ntmps11
  go_wp2_with (fail)
  refine (HP.out).mono ?_
  rintro e w2 ⟨A2, c2, rfl, o2, b2⟩
  have HB2 := Lib.hid (HAB.out.trans (b2.mono HAB.out.size))
  have F2 := Lib.hid o2.form_
  have HG := Lib.hid (ppgget_any 5 _ p w2.heap.size w2 F2.out (Nat.le_refl _))
  rw [HGE.out] at HG
  clear HP o2 b2 HAB kc hY
  go_wp2_with (fail)
  refine (HG.out).mono ?_
  rintro e w3 ⟨A3, c3, rfl, o3, b3⟩
  have HB3 := Lib.hid (HB2.out.trans (b3.mono HB2.out.size))
  have F3 := Lib.hid ((F2.out.below_ b3 (Nat.le_refl _)))
  have G3 : Hid (Lv yK w3 w3.heap.size (.slice A3 2 c3) [97, 98]) := o3.form_
  have hl := HL.out
  obtain ⟨g, o, x4, e1, h1, _, h2, c4⟩ := F3.out.byte_ (k := 4) (by omega)
  obtain ⟨g', o', x8, e2, h3, _, h4, c8⟩ := F3.out.byte_ (k := 8) (by omega)
  obtain ⟨g'', o'', x10, e3, h5, _, h6, c10⟩ := F3.out.byte_ (k := 10) (by omega)
  subst e1
  injection e2 with e2
  injection e2 with e2 e2'
  injection e3 with e3
  injection e3 with e3 e3'
  subst e2 e2' e3 e3'
  rw [H4.out] at h2
  rw [H8.out] at h4
  rw [H10.out] at h6
  injection h2 with h2
  injection h4 with h4
  injection h6 with h6
  subst h2 h4 h6
  have kc := Lib.run_convert_bytes_const (P := Try.prog) w3 22 5 #[.int .u8 97, .int .u8 98] 2 2 Try.underlying22 Try.underlying5
  have hla := const_lv w3 [97, 98] (by decide) (by decide) _ rfl 2 rfl 5 (2, 3)
  have hab : Below w3.heap.size w3 (w3.alloc (.cells #[.int .u8 97, .int .u8 98] 5 (2, 3))) := (Below.refl _ _).alloc (Nat.le_refl _) _
  obtain ⟨X, hX⟩ : ∃ Y, w3.alloc (.cells #[.int .u8 97, .int .u8 98] 5 (2, 3)) = Y := ⟨_, rfl⟩
  change Lv yK (w3.alloc (.cells #[.int .u8 97, .int .u8 98] 5 (2, 3))) _ _ _ at hla
  rw [hX] at hla hab
  change _ = Result.ok _ (w3.alloc (.cells #[.int .u8 97, .int .u8 98] 5 (2, 3))) at kc
  rw [hX] at kc
  have HS := Lib.hid (octs_lv _ _ _ _ _ _ X (G3.out.below_ hab (Nat.le_refl _)) hla)
  simp only [decide_true] at HS
  have HBX := Lib.hid (HB3.out.trans (hab.mono HB3.out.size))
  rw [hl]
  clear HG o3 b3 HB2 F2 h1 h3 h5 hla hab hl
  go_wp2_with (fail)
  refine (HS.out).mono ?_
  rintro e w4 ⟨rfl, b4⟩
  have HB4 := Lib.hid (HBX.out.trans (b4.mono HBX.out.size))
  clear HS b4 kc hX
  go_wp2
  go_ret
  exact ⟨rfl, HB4.out⟩
end Go.Proofs.Ytdmomnpmicagcaa
