/-
  stookref15.Get.
-/
import Derived.Test.YtdmomnpmicagcaaRPgA
import Derived.Test.YtdmomnpmicagcaaCopyO
import Derived.Test.YtdmomnpmicagcaaOcts
import Derived.Test.YtdmomnpmicagcaaCut
import Derived.Deep.RegionHeld3
import Derived.Deep.QuietTactic
import Derived.BigQuiet
namespace Go.Proofs.Ytdmomnpmicagcaa
open Go.RowKit
set_option linter.unusedVariables false
/-- A call that answers a kind, bytes in new memory, and an error. -/
def IsKL (r : Nat × List Nat × Nat) (w : World) (e : Ending) (w' : World) : Prop :=
  ∃ A c, e = .returned (.tuple #[.int .u8 (r.1 : Nat), .slice A r.2.1.length c, .int .i64 (r.2.2 : Nat)]) ∧ OwnL yK w' w.heap.size (.slice A r.2.1.length c) r.2.1 ∧ Below w.heap.size w w'
theorem IsKL.none_b {w w' : World} {r : Nat × List Nat × Nat} {e : Nat} {x y : Int} (h : r = (0, [], e)) (hx : x = (e : Nat)) (hy : y = 0) (hb : Below w.heap.size w w') : IsKL r w (.returned (.tuple #[.int .u8 y, .slice none 0 0, .int .i64 x])) w' := by
  subst h hx hy; exact ⟨none, 0, rfl, OwnL.nil_ _ _ _, hb⟩
theorem IsKL.of {w w' : World} {r : Nat × List Nat × Nat} {k n c : Nat} {l : List Nat} {A : Option Addr} {x : Int} (h : r = (k, l, 0)) (hn : n = l.length) (hx : x = 0) (ho : OwnL yK w' w.heap.size (.slice A n c) l) (hb : Below w.heap.size w w') :
    IsKL r w (.returned (.tuple #[.int .u8 (k : Nat), .slice A n c, .int .i64 x])) w' := by
  subst h hx hn; exact ⟨A, c, rfl, ho, hb⟩

set_option maxHeartbeats 2000000 in
set_option maxRecDepth 100000 in
theorem rpgget_any (n : Int) (v : Value) (b : List Nat) (B : Nat) (w : World) (hv : Lv yK w B v b) (hB : B ≤ w.heap.size) :
    Calls Try.prog 13 #[.int .i64 n, v] w (IsKL (Pg.getE n b) w) := by
  have HV := Lib.hid hv
  have hb8 : ∀ x ∈ b, x < 256 := fun x hx => hv.ok_ x hx
  have HB8 := Lib.hid hb8
  have HBB := Lib.hid hB
  obtain ⟨A, c, rfl, k1, k2, -, -, hin⟩ := id hv
  have hll : b.length ≤ 9223372036854775807 := by simp only [maxLen] at k2; omega
  clear hB hv
  by_cases h0 : n < 0
  · have HE := Lib.hid (Pg.getE_arg (b := b) (.inl h0))
    clear hin k1 k2
    go_enter Try.func13, Try.ntmps13
    go_wp2
    go_ret3
    exact IsKL.none_b HE.out rfl rfl (Below.refl _ _)
  by_cases h1 : 65536 ≤ n
  · have HE := Lib.hid (Pg.getE_arg (b := b) (.inr h1))
    clear hin k1 k2
    go_enter Try.func13, Try.ntmps13
    go_wp2
    go_ret3
    exact IsKL.none_b HE.out rfl rfl (Below.refl _ _)
  have hg : ¬ (n < 0 ∨ 65536 ≤ n) := by omega
  by_cases h2 : b.length < 512
  · have HE := Lib.hid (Pg.getE_short hg h2)
    have hi : (b.length : Int) < 512 := by omega
    clear hin k1 k2 h2 hg
    go_enter Try.func13, Try.ntmps13
    go_wp2
    go_ret3
    exact IsKL.none_b HE.out rfl rfl (Below.refl _ _)
  by_cases h3 : 512 < b.length
  · have HE := Lib.hid (Pg.getE_long hg h2 h3)
    have hi : ¬ (b.length : Int) < 512 := by omega
    have hj : (512 : Int) < (b.length : Int) := by omega
    clear hin k1 k2 h2 h3 hg
    go_enter Try.func13, Try.ntmps13
    go_wp2
    go_ret3
    exact IsKL.none_b HE.out rfl rfl (Below.refl _ _)
  obtain ⟨bb, off, rfl, hbl, hcell⟩ := hin (by omega)
  have hlen : b.length = 512 := by omega
  have HL := Lib.hid hlen
  have hc512 : 512 ≤ c := by omega
  have hcm : c ≤ maxLen := k2
  simp only [maxLen] at hcm
  rw [hlen] at HV ⊢
  have HG := Lib.hid hg
  have H2 : Hid (¬ b.length < 512 ∧ ¬ 512 < b.length) := ⟨h2, h3⟩
  have HN4 := Lib.hid (Cr.of_b32 (l := b.drop 4) (fun x hx => hb8 x (List.mem_of_mem_drop hx)))
  obtain ⟨n4, hn4⟩ : ∃ x, Cr.of (b.drop 4) = x := ⟨_, rfl⟩
  rw [hn4] at HN4
  have hS4 : Bv w B (.slice (some ⟨bb, off + 4, none⟩) 508 (c - 4)) (b.drop 4) := by
    have h := (HV.out.bv_).cut_ (k := 4) (m := 508) (by omega)
    rwa [List.take_of_length_le (by rw [List.length_drop]; omega)] at h
  have hT4 : Lv yK w B (.slice (some ⟨bb, off, none⟩) 4 c) (b.take 4) := HV.out.take_ (by omega)
  have HC : Hid (∀ w', Below w.heap.size w w' → ∀ (i x : Nat), b[i]? = some x → w'.cell? ⟨bb, off + i, none⟩ = some (.int .u8 (x : Nat))) := fun w' hb' i x hx => by
    obtain ⟨b1, o1, y, e1, h1, _, hy, hcl⟩ := (HV.out.below_ hb' HBB.out).byte_ (k := i) (List.getElem?_eq_some_iff.1 hx).1
    injection e1 with e1
    injection e1 with e1 e2
    subst e1 e2
    rw [hx] at hy
    injection hy with hy
    rw [hy]
    exact hcl
  have HT4 := Lib.hid hT4
  have J1 := Lib.hid (rof_any _ _ B w.drew hS4)
  rw [hn4] at J1
  have X0 : Hid (Below w.heap.size w w.drew) := (Below.refl _ _).drew
  have g0 : ¬ n < 0 := h0
  have g1 : ¬ 65536 ≤ n := h1
  have i1 : (4 : Int) ≤ (c : Int) := by omega
  have i2 : ¬ c = 4 := by omega
  obtain ⟨q, hq⟩ : ∃ q, decide (b.take 4 = four n4) = q := ⟨_, rfl⟩
  have HQ := Lib.hid hq
  have HN := Lib.hid hn4
  clear hin k1 k2 h2 h3 hg hcell hbl hb8 hS4 hT4 hlen hn4 hq h0 h1
  go_enter Try.func13, Try.ntmps13
  go_wp2
  go_region_held3 (fun _ => True) (trivial) (first
    | (go_at_call 20; (with_reducible refine J1.out.mono ?_); rintro e x1 ⟨rfl, rfl⟩; have J2 := Lib.hid (rfour_any n4 HN4.out w.drew))
    | (go_at_call 19; (with_reducible refine J2.out.mono ?_); rintro e x2 ⟨A2, c2, rfl, o2, b2⟩; have X2 := Lib.hid (X0.out.trans (b2.mono X0.out.size)); have J3 := Lib.hid (octs_lv _ _ (b.take 4) (four n4) B x2.heap.size x2 (HT4.out.below_ X2.out HBB.out) o2.form_); rw [HQ.out] at J3; clear o2 b2)
    | (go_at_call 9; (with_reducible refine J3.out.mono ?_); rintro e x3 ⟨rfl, b3⟩; have X3 := Lib.hid (X2.out.trans (b3.mono X2.out.size)); clear b3))
  clear J1 J2 J3 X2 X0
  cases q with
  | false =>
    have HE : Hid (Pg.getE n b = (0, [], 6)) := Pg.getE_sum HG.out H2.out.1 H2.out.2 (by rw [HN.out]; exact of_decide_eq_false HQ.out)
    go_wp2
    go_ret3
    exact IsKL.none_b HE.out rfl rfl X3.out
  | true =>
    have H3 : Hid (b.take 4 = four (Cr.of (b.drop 4))) := by unfold Hid; rw [HN.out]; exact of_decide_eq_true HQ.out
    have hl := HL.out
    obtain ⟨y10, hy10⟩ : ∃ y, b[10]? = some y := ⟨_, List.getElem?_eq_getElem (by omega)⟩
    obtain ⟨y11, hy11⟩ : ∃ y, b[11]? = some y := ⟨_, List.getElem?_eq_getElem (by omega)⟩
    obtain ⟨y8, hy8⟩ : ∃ y, b[8]? = some y := ⟨_, List.getElem?_eq_getElem (by omega)⟩
    have l10 : y10 < 256 := HB8.out _ (List.mem_of_getElem? hy10)
    have l11 : y11 < 256 := HB8.out _ (List.mem_of_getElem? hy11)
    have L8 : Hid (y8 < 256) := HB8.out _ (List.mem_of_getElem? hy8)
    have c10 := HC.out x3 X3.out 10 y10 hy10
    have c11 := HC.out x3 X3.out 11 y11 hy11
    obtain ⟨m, hm⟩ : ∃ m, y10 + 256 * y11 = m := ⟨_, rfl⟩
    have hsz : Pg.size b = m := by
      unfold Pg.size
      rw [List.getD_eq_getElem?_getD, List.getD_eq_getElem?_getD, hy10, hy11]
      exact hm
    have HSZ := Lib.hid hsz
    have w1 : IntKind.i64.wrap (256 * (y11 : Int)) = 256 * (y11 : Int) := by rw [IntKind.wrap_i64]; omega
    have w2 : (y10 : Int) + 256 * (y11 : Int) = (m : Int) := by omega
    have w3 : IntKind.i64.wrap (m : Int) = (m : Int) := by rw [IntKind.wrap_i64]; omega
    have HY8 : Hid (b.getD 8 0 = y8) := by unfold Hid; rw [List.getD_eq_getElem?_getD, hy8]; rfl
    have HY := Lib.hid hy8
    clear hl hy10 hy11 hy8 hsz hm
    go_wp2
    go_quiet (fail)
    generalize hW : x3.drewN _ = W
    have XW : Hid (Below w.heap.size w W) := by unfold Hid; rw [← hW]; exact below_drewN X3.out _
    clear hW X3 c10 c11
    by_cases h4 : 496 < m
    · have h4i : (496 : Int) < (m : Int) := by omega
      have HE : Hid (Pg.getE n b = (0, [], 5)) := Pg.getE_size HG.out H2.out.1 H2.out.2 H3.out (by rw [HSZ.out]; exact h4)
      go_wp2
      go_ret3
      exact IsKL.none_b HE.out rfl rfl XW.out
    · have h4i : ¬ (496 : Int) < (m : Int) := by omega
      have H4 : Hid (¬ 496 < Pg.size b) := by unfold Hid; rw [HSZ.out]; exact h4
      have w4 : IntKind.i64.wrap (12 + (m : Int)) = 12 + (m : Int) := by rw [IntKind.wrap_i64]; omega
      have w5 : (12 : Int) ≤ 12 + (m : Int) := by omega
      have w6 : 12 + (m : Int) ≤ (c : Int) := by omega
      have w7 : (0 : Int) ≤ 12 + (m : Int) := by omega
      have w8 : (12 + (m : Int)).toNat = 12 + m := by omega
      have w9 : ¬ c = 12 := by omega
      have hbd : (b.drop 12).take m = Pg.body b := by unfold Pg.body; rw [HSZ.out]
      have hcut : Bv W B (.slice (some ⟨bb, off + 12, none⟩) m (c - 12)) (Pg.body b) := by
        have h := ((HV.out.below_ XW.out HBB.out).bv_).cut_ (k := 12) (m := m) (by have := HL.out; omega)
        rwa [hbd] at h
      have hbl : (Pg.body b).length = m := by rw [← hbd, List.length_take, List.length_drop]; have := HL.out; omega
      obtain ⟨y, hy⟩ : ∃ y, Pg.body b = y := ⟨_, rfl⟩
      rw [hy] at hcut hbl
      have HYB := Lib.hid hy
      have HBL := Lib.hid hbl
      have JC := Lib.hid (copyO_any _ y B W hcut.lv_ (by omega))
      clear hbd hcut hy hbl
      go_wp2_with fail
      refine JC.out.mono ?_
      rintro e w4 ⟨A4, c4, rfl, o4, b4⟩
      have X4 := Lib.hid (XW.out.trans (b4.mono XW.out.size))
      have d8 := HC.out w4 X4.out 8 y8 HY.out
      have hpe := Pg.putE_ok (n := n) (k := y8) (b := y) HG.out (by have := HBL.out; have := H4.out; have := HSZ.out; omega)
      obtain ⟨p, hp⟩ : ∃ p, Pg.page n.toNat y8 y = p := ⟨_, rfl⟩
      rw [hp] at hpe
      have HPP := Lib.hid hp
      have HP := Lib.hid (rpgput_any n y8 _ y w4.heap.size w4 L8.out o4.form_ (Nat.le_refl _))
      rw [hpe] at HP
      have HO4 := Lib.hid (o4.mono_ XW.out.size)
      clear JC o4 b4 hpe hp
      go_wp2_with fail
      refine HP.out.mono ?_
      rintro e w5 ⟨A5, c5, rfl, o5, b5⟩
      have X5 := Lib.hid (X4.out.trans (b5.mono X4.out.size))
      have HO5 := Lib.hid (HO4.out.below_ b5 (Nat.le_refl _))
      have JS := Lib.hid (octs_lv _ _ p b w5.heap.size B w5 o5.form_ (HV.out.below_ X5.out HBB.out))
      obtain ⟨q2, hq2⟩ : ∃ q, decide (p = b) = q := ⟨_, rfl⟩
      rw [hq2] at JS
      have HQ2 := Lib.hid hq2
      clear HP o5 b5 hq2 X4 HO4 d8
      go_wp2_with fail
      refine JS.out.mono ?_
      rintro e w6 ⟨rfl, b6⟩
      have X6 := Lib.hid (X5.out.trans (b6.mono X5.out.size))
      have HO6 := Lib.hid (HO5.out.below_ b6 (Nat.le_refl _))
      clear JS b6 X5 HO5
      cases q2 with
      | false =>
        have HE : Hid (Pg.getE n b = (0, [], 5)) := Pg.getE_form HG.out H2.out.1 H2.out.2 H3.out H4.out (by rw [HY8.out, HYB.out, HPP.out]; exact of_decide_eq_false HQ2.out)
        go_wp2
        go_ret3
        exact IsKL.none_b HE.out rfl rfl X6.out
      | true =>
        have HE : Hid (Pg.getE n b = (y8, y, 0)) := by
          have := Pg.getE_ok HG.out H2.out.1 H2.out.2 H3.out H4.out (by rw [HY8.out, HYB.out, HPP.out]; exact of_decide_eq_true HQ2.out)
          rwa [HY8.out, HYB.out] at this
        have e8 := HC.out w6 X6.out 8 y8 HY.out
        go_wp2
        go_ret3
        exact IsKL.of HE.out rfl rfl HO6.out X6.out
end Go.Proofs.Ytdmomnpmicagcaa
