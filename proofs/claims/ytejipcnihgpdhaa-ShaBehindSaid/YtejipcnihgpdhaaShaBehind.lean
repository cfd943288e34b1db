/-
  ShaBehind: what stands behind so many bytes is the document's, or its error; it fills up blocks, and its last eight bytes tell how many bits there were. No condition.
-/
import Derived.Test.YtejipcnihgpdhaaFrame
import Derived.Test.YtejipcnihgpdhaaSameB
import Derived.Test.YtejipcnihgpdhaaSpWorks
namespace Go.Proofs.Ytejipcnihgpdhaa.shaBehind
open Go.ChangeShapes Go.WideShapes Go.ChangeAt Go.RowKit
open Go.ChangeMaps (open_string shut_string)
set_option linter.unusedVariables false

theorem i64_lt {a : Int} (h : (Lit.int .i64 a).wf = true) : a < 9223372036854775808 := by
  simp [Lit.wf, IntKind.min, IntKind.max, IntKind.signed, IntKind.bits] at h
  omega
/-- The number that the first j of the last eight bytes tell. -/
theorem bits_step (m j : Nat) (h : j < 8) : 256 * (m / 2 ^ (8 * (8 - j))) + m / 2 ^ (8 * (7 - j)) % 256 = m / 2 ^ (8 * (8 - (j + 1))) := by
  have e1 : 8 * (8 - j) = 8 * (7 - j) + 8 := by omega
  have e2 : 8 - (j + 1) = 7 - j := by omega
  rw [e1, e2, Nat.pow_add, ← Nat.div_div_eq_div_mul]
  omega
theorem last_at (n j : Nat) (h : j < 8) : (Sh.behind n)[(Sh.behind n).length - 8 + j]? = some (8 * n / 2 ^ (8 * (7 - j)) % 256) := by
  have e : (Sh.behind n).length - 8 + j = (Sh.noughts n) + 1 + j := by rw [Sh.behind_len]; omega
  rw [e]
  show ((128 :: List.replicate (Sh.noughts n) 0) ++ Sh.eight (8 * n))[_]? = _
  rw [List.getElem?_append_right (by simp)]
  have e2 : Sh.noughts n + 1 + j - (128 :: List.replicate (Sh.noughts n) 0).length = j := by simp
  rw [e2]
  rcases j with _|_|_|_|_|_|_|_|j
  all_goals first | rfl | (exfalso; omega) | simp [Sh.eight]

set_option maxHeartbeats 1000000 in
set_option maxRecDepth 100000 in
theorem walk (w : World) (a0 : Int) (w0 : (Lit.int .i64 a0).wf = true) :
    Calls Try.prog 4 #[.int .i64 a0] w (IsBool true w) := by
  have HP := Lib.hid (pbehind_any a0 (i64_lt w0) w)
  have HRB := Lib.hid (rbehind_any a0)
  clear w0
  by_cases ho : a0 < 0 ∨ 1099511627776 < a0
  · rw [Sh.behindOf_out ho] at HP HRB
    clear ho
    go_enter Try.func4, Try.ntmps4
    go_wp2_with (fail)
    refine HP.out.mono ?_
    rintro e w1 ⟨A, c, rfl, hO1, hB1⟩
    have HV1 := Lib.hid hO1.form_
    have HB1 := Lib.hid hB1
    clear hO1 hB1 HP
    go_wp2_with (fail)
    refine (HRB.out w1).mono ?_
    rintro e w2 ⟨A2, c2, rfl, hO2, hB2⟩
    have HS := Lib.hid (same_bv _ _ _ _ _ _ w2 (HV1.out.below_ hB2 (Nat.le_refl _)) hO2.form_)
    have HB2 := Lib.hid (HB1.out.trans (hB2.mono HB1.out.size))
    clear hO2 hB2 HRB HV1 HB1
    go_wp2_with (fail)
    refine HS.out.mono ?_
    rintro e w3 ⟨he, hb3⟩
    simp only [decide_true] at he
    subst he
    have HB3 := Lib.hid (HB2.out.trans (hb3.mono HB2.out.size))
    clear HS HB2 hb3
    go_wp2_with (fail)
    refine (works_any w3).mono ?_
    rintro e w4 ⟨rfl, hb4⟩
    have HB4 := Lib.hid (HB3.out.trans (hb4.mono HB3.out.size))
    clear hb4
    go_wp2
    go_ret
    exact ⟨rfl, HB4.out⟩
  · obtain ⟨n, rfl⟩ := Int.eq_ofNat_of_zero_le (a := a0) (by omega)
    have hn : n ≤ 1099511627776 := by omega
    rw [Sh.behindOf_in hn] at HP HRB
    clear ho
    have hbl := Sh.behind_len n
    have hnz := Sh.noughts_lt n
    have hwh := Sh.behind_whole n
    have HAT : Hid (∀ j, j < 8 → (Sh.behind n)[(Sh.behind n).length - 8 + j]? = some (8 * n / 2 ^ (8 * (7 - j)) % 256)) := fun j hj => last_at n j hj
    obtain ⟨l, hl⟩ : ∃ l, Sh.behind n = l := ⟨_, rfl⟩
    rw [hl] at HP HRB hbl hwh HAT
    clear hl
    have HLN : Hid (9 ≤ l.length ∧ l.length ≤ 72 ∧ (n + l.length) % 64 = 0) := ⟨by omega, by omega, hwh⟩
    have HNN := Lib.hid hn
    clear hbl hnz hwh
    go_enter Try.func4, Try.ntmps4
    go_wp2_with (fail)
    refine HP.out.mono ?_
    rintro e w1 ⟨A, c, rfl, hO1, hB1⟩
    have HV1 := Lib.hid hO1.form_
    have HB1 := Lib.hid hB1
    clear hO1 hB1 HP
    go_wp2_with (fail)
    refine (HRB.out w1).mono ?_
    rintro e w2 ⟨A2, c2, rfl, hO2, hB2⟩
    have HV2 := Lib.hid (HV1.out.below_ hB2 (Nat.le_refl _))
    have HS := Lib.hid (same_bv _ _ _ _ _ _ w2 HV2.out hO2.form_)
    have HB2 := Lib.hid (HB1.out.trans (hB2.mono HB1.out.size))
    have HZ2 : Hid (w1.heap.size ≤ w2.heap.size) := hB2.size
    clear hO2 hB2 HRB HV1 HB1
    go_wp2_with (fail)
    refine HS.out.mono ?_
    rintro e w3 ⟨he, hb3⟩
    simp only [decide_true] at he
    subst he
    have HB3 := Lib.hid (HB2.out.trans (hb3.mono HB2.out.size))
    obtain ⟨A', c', e', _, _, _, hts⟩ := HV2.out.below_ hb3 HZ2.out
    injection e' with e1 e2 e3
    subst e1
    have hpos : 0 < l.length := by have := HLN.out; omega
    obtain ⟨b, off, rfl, _, hcell⟩ := hts.2 hpos
    have HCE : Hid (∀ j, j < 8 → w3.cell? ⟨b, off + (l.length - 8 + j), none⟩ = some (.int .u8 (8 * n / 2 ^ (8 * (7 - j)) % 256 : Nat))) := fun j hj => hcell _ _ (HAT.out j hj)
    clear HS HB2 hb3 hts hcell HV2 HZ2 e3 e2 HAT
    have hl8 : (8 : Int) ≤ (l.length : Int) := by have := HLN.out; omega
    have hl72 : (l.length : Int) ≤ 72 := by have := HLN.out; omega
    go_wp2
    go_loop [7, 8] (fun x i => ∃ j : Nat, j ≤ 8 ∧ x = .int .i64 (8 * n / 2 ^ (8 * (8 - j)) : Nat) ∧ i = .int .i64 (l.length - 8 + j : Nat)) (fun _ i => l.length - (intOf i).toNat)
    case atStart =>
      refine ⟨0, by omega, ?_, congrArg (Value.int IntKind.i64) (by omega)⟩
      have e : 8 * n / 2 ^ (8 * (8 - 0)) = 0 := Nat.div_eq_of_lt (Nat.lt_of_le_of_lt (Nat.mul_le_mul_left 8 HNN.out) (by decide))
      rw [e]; rfl
    case round =>
      obtain ⟨j, hj, rfl, rfl⟩ := hrel
      by_cases h8 : j < 8
      · have hc := HCE.out j h8
        have hst := bits_step (8 * n) j h8
        obtain ⟨q, hq⟩ : ∃ q, 8 * n / 2 ^ (8 * (8 - j)) = q := ⟨_, rfl⟩
        obtain ⟨q', hq'⟩ : ∃ q', 8 * n / 2 ^ (8 * (8 - (j + 1))) = q' := ⟨_, rfl⟩
        obtain ⟨y, hy⟩ : ∃ y, 8 * n / 2 ^ (8 * (7 - j)) % 256 = y := ⟨_, rfl⟩
        have hb : q' ≤ 8 * n := by rw [← hq']; exact Nat.div_le_self _ _
        rw [hq, hq', hy] at hst
        rw [hy] at hc
        rw [hq]
        have HQ' := Lib.hid hq'
        obtain ⟨k, hk⟩ : ∃ k, l.length - 8 + j = k := ⟨_, rfl⟩
        rw [hk] at hc ⊢
        have HK := Lib.hid hk
        have hkl : k < l.length := by have := HLN.out; omega
        have e1 : 256 * (q : Int) + (y : Int) = (q' : Nat) := by omega
        have i1 : (k : Int) < (l.length : Int) := by omega
        have i2 : 256 * (q : Int) ≤ 8796093022208 := by omega
        have i3 : (q' : Int) ≤ 8796093022208 := by omega
        have i4 : (k : Int) ≤ 100 := by have := HLN.out; omega
        have hy8 : y < 256 := by omega
        have HHY : Hid (256 * q + y = q') := hst
        clear hq hq' hy hst hk hb
        go_wp2
        exact ⟨⟨j + 1, by omega, by rw [HQ'.out], congrArg (Value.int IntKind.i64) (by have := HK.out; omega)⟩, by simp [intOf]; omega⟩
      · have h0 : j = 8 := by omega
        subst h0
        have e0 : 8 * n / 2 ^ (8 * (8 - 8)) = 8 * n := by simp
        rw [e0]
        obtain ⟨k1, k2, k3⟩ := HLN.out
        have e1 : l.length - 8 + 8 = l.length := by omega
        rw [e1]
        have hm : ((n : Int) + (l.length : Int)).tmod 64 = 0 := by rw [Int.tmod_eq_emod_of_nonneg (by omega)]; omega
        have k4 : (9 : Int) ≤ (l.length : Int) := by omega
        have k5 : (l.length : Int) ≤ 72 := by omega
        have HWK := Lib.hid (works_any w3)
        clear e0 e1 k3
        go_wp2_with (go_at_call 12; refine HWK.out.mono ?_; rintro e w4 ⟨rfl, hb4⟩; have HB4 := Lib.hid (HB3.out.trans (hb4.mono HB3.out.size)); clear hb4)
        go_ret
        exact ⟨rfl, HB4.out⟩

/-! ### From the walk to the row -/
set_option maxRecDepth 100000 in
theorem lifted (os : Os) (started : os.Started) (H : Type) (enc : TypeId × Value → H) :
    ReturnsInHanded {} Try.checked os 4 .any (Rows.shaBehindSpec.pre6 enc Try.prog Try.f4 Rows.shaBehindRow.domain false) (Rows.shaBehindSpec.post enc Try.prog Try.f4 false true false false) := by
  refine returnsInHanded_of_change (C := Try.checked) own started (by kernel_rfl) Try.func4
    (ChangeSpec.witness6 (enc := enc) (C := Try.checked) false ⟨#[], #[.int .i64 0], []⟩ 8 (by kernel_rfl) (by kernel_rfl) (by kernel_rfl) (by kernel_rfl)) ?_
  intro W base args ds gs before hval0 hW hcnd _
  have hval : ∀ (j : Nat) t v, Try.f4.params[j]? = some t → args[j]? = some v → Value.okWide Try.prog W .any base t v := hval0
  have hW' := hW
  obtain ⟨p, q, hA0, hV, rfl, hfz, hnd⟩ := hW
  have hA : DataW.TrodAll enc Try.prog W 0 (fun _ => true) true Try.f4.params.toList args.toList ds p := hA0
  rw [Try.params4] at hA hval
  obtain ⟨v0, vs0, d0, ds0, p0, q0, hargs, rfl, rfl, h0, r0⟩ := trodAll_cons hA
  obtain ⟨rfl, rfl, rfl⟩ := trodAll_nil r0
  obtain rfl : args = #[v0] := by cases args; simp_all
  obtain ⟨rfl, rfl⟩ := trodVars_none hV
  obtain ⟨a0, rfl, rfl, rfl, w0⟩ := open_int Try.underlying3 (hval 0 3 v0 rfl rfl) h0
  clear hA0 hval0
  refine (walk W a0 w0).mono fun e W' ⟨he, bel⟩ => ?_
  subst he
  exact ⟨_, rfl, _, _, _, [], _, [], hW', trodAll_mk1 (shut_bool Try.underlying4 _), (trodAll_cons_mk (shut_int Try.underlying3 w0) trodAll_mk0), rfl, bel.frame _, fun h => by cases h⟩

theorem proved : Rows.ShaBehindSaid :=
  OpenClaim.holds_of_wide 4 Try.f4 rfl rfl rfl rfl rfl rfl rfl ⟨rfl, rfl, rfl, rfl, rfl⟩ rfl rfl rfl rfl rfl (by kernel_rfl) Try.func4 (by kernel_rfl)
    (of_decide_eq_true (by kernel_rfl)) (by unfold Func.isWrapper; first | (rw [if_pos (by decide +kernel)]; kernel_rfl) | (rw [if_neg (by decide +kernel)]; exact ⟨rfl, rfl⟩))
    (fun os started H enc _ => lifted os started H enc)

end Go.Proofs.Ytejipcnihgpdhaa.shaBehind
