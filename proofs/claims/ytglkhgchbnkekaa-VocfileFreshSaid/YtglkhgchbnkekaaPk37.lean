/-
  VfPro: Package vocfile's side: Put, Get, Id of the program.
  VfLaw: stooklaw09.works.
-/
import Derived.Test.YtglkhgchbnkekaaPk35
import Derived.Test.YtglkhgchbnkekaaPk36
import Derived.Test.YtglkhgchbnkekaaPk29
import Derived.Test.YtglkhgchbnkekaaPk15

namespace Go.Proofs.Ytglkhgchbnkekaa
open Go.RowKit
set_option linter.unusedVariables false

namespace Vf
open Vo (plain)
theorem pcs_plain (n : Nat) : (pcs (plain n)).length = 2 * n := by
  induction n with
  | zero => rfl
  | succ n ih => rw [Vo.plain_succ, pcs_app, List.length_append, ih]; simp [pcs, pcB]; omega
theorem file_plain : (file (plain 256)).length = 524 := by
  have h2 : (Mt.put 256).length = 2 := by decide +kernel
  rw [file_len, body, List.length_append, List.length_append, Vo.plain_len, h2, pcs_plain, magic_len]
theorem plain_ok : ∀ p ∈ plain 256, p.rank < 4294967296 ∧ p.byte < 256 := by
  intro p hp
  simp only [plain, List.mem_map, List.mem_range] at hp
  obtain ⟨b, hb, rfl⟩ := hp
  exact ⟨by simp, hb⟩
theorem put_plain : putE (plain 256) = (file (plain 256), 0) := if_pos Vo.may_plain
theorem get_plain : getE (file (plain 256)) = (plain 256, 0, 0) := getE_file Vo.may_plain (may_fits Vo.may_plain (fun p hp => (plain_ok p hp).1) (fun p hp => (plain_ok p hp).2))
theorem get_magic : getE magic = ([], 6, 4) := by decide +kernel
end Vf

theorem cell_lt {w : World} {s j : Nat} {u : Value} (h : w.cell? ⟨s, j, none⟩ = some u) : s < w.heap.size := by
  apply Decidable.byContradiction
  intro hn
  have hx : w.heap[s]? = none := Array.getElem?_eq_none (by omega)
  simp [World.cell?, hx] at h

set_option maxRecDepth 100000 in
set_option maxHeartbeats 2000000 in
theorem works_vf (w : World) : Calls Try.prog 9 #[] w (IsBool true w) := by
  have HP := Lib.hid (rplain_any w)
  go_enter Try.func9, Try.ntmps9
  go_wp2_with (fail)
  refine HP.out.mono ?_
  rintro e w1 ⟨A, c, rfl, ho, hb⟩
  have HB1 := Lib.hid hb
  have C2 := Lib.hid (pvput_any _ _ _ w1 ho.form_ (Nat.le_refl _) (by rw [Vo.plain_len]; omega))
  rw [Vf.put_plain] at C2
  clear ho hb HP
  go_wp2_with (fail)
  refine C2.out.mono ?_
  rintro e w2 ⟨A2, c2, rfl, ho, hb⟩
  have HB2 := Lib.hid (HB1.out.trans (hb.mono HB1.out.size))
  have C3 := Lib.hid (pvget_any _ _ _ w2 ho.form_ (Nat.le_refl _) (by show (Vf.file (Vo.plain 256)).length ≤ _; rw [Vf.file_plain]; omega))
  simp only [Vf.get_plain] at C3
  have hfl : (Vf.file (Vo.plain 256)).length = 524 := Vf.file_plain
  simp only [hfl] at C3 ⊢
  clear ho hb C2 HB1 hfl
  go_wp2_with (fail)
  refine C3.out.mono ?_
  rintro e w3 ⟨A3, c3, rfl, ho, hb⟩
  have HB3 := Lib.hid (HB2.out.trans (hb.mono HB2.out.size))
  have hpl : (Vo.plain 256).length = 256 := Vo.plain_len 256
  simp only [hpl]
  obtain ⟨Y, hY⟩ : ∃ Y, w3.alloc (.cells #[.slice A3 256 c3] 24) = Y := ⟨_, rfl⟩
  obtain ⟨db, hsz, hbb⟩ := boxed hY
  have HBY := Lib.hid (HB3.out.trans (hbb.mono HB3.out.size))
  have kc := Lib.run_convert_bytes_const (P := Try.prog) Y 27 5 #[.int .u8 115, .int .u8 116, .int .u8 111, .int .u8 111, .int .u8 107, .int .u8 118] 6 6 Try.underlying27 Try.underlying5
  have hz1 := (Bv.magic_ Y).lv_
  obtain ⟨Z, hZ⟩ : ∃ Z, Y.alloc (.cells #[.int .u8 115, .int .u8 116, .int .u8 111, .int .u8 111, .int .u8 107, .int .u8 118] 5 (6, 7)) = Z := ⟨_, rfl⟩
  rw [hZ] at hz1
  change _ = Result.ok _ (Y.alloc (.cells #[.int .u8 115, .int .u8 116, .int .u8 111, .int .u8 111, .int .u8 107, .int .u8 118] 5 (6, 7))) at kc
  rw [hZ] at kc
  have hbz : Below Y.heap.size Y Z := by rw [← hZ]; exact (Below.refl _ _).alloc (Nat.le_refl _) _
  have hzs : Z.heap.size = Y.heap.size + 1 := by rw [← hZ]; simp
  have C4 := Lib.hid (pvget_any Vf.magic _ _ Z hz1 (by omega) (by rw [Vf.magic_len]; omega))
  rw [Vf.get_magic] at C4
  have dz := (hbz.cell (p := ⟨w3.heap.size, 0, none⟩) (by show w3.heap.size < _; omega)).trans db
  have HBZ := Lib.hid (HBY.out.trans (hbz.mono HBY.out.size))
  have HLT : Hid (w3.heap.size < Z.heap.size) := by unfold Hid; omega
  clear ho hb C3 hz1 hbz hzs hsz hbb hpl db
  go_wp2_with (fail)
  refine C4.out.mono ?_
  rintro e w4 ⟨A4, c4, rfl, ho, hb⟩
  have d4 := (hb.cell (p := ⟨w3.heap.size, 0, none⟩) HLT.out).trans dz
  have HB4 := Lib.hid (HBZ.out.trans (hb.mono HBZ.out.size))
  obtain ⟨Y5, hY5⟩ : ∃ Y, w4.alloc (.cells #[.slice A4 0 c4] 24) = Y := ⟨_, rfl⟩
  obtain ⟨db5, hsz5, hbb5⟩ := boxed hY5
  have HB5 := Lib.hid (HB4.out.trans (hbb5.mono HB4.out.size))
  have hlt4 : w3.heap.size < w4.heap.size := Nat.lt_of_lt_of_le HLT.out hb.size
  have d5 := (hbb5.cell (p := ⟨w3.heap.size, 0, none⟩) hlt4).trans d4
  clear ho hb C4 d4 dz hbb5 hsz5 db5 hlt4
  go_wp2
  go_ret
  exact ⟨rfl, HB5.out⟩
end Go.Proofs.Ytglkhgchbnkekaa
