/-
  VocabPlain: the plain vocabulary is the document's, each time a new one. No condition.
-/
import Derived.Test.YtgkmlcghkkpgpaaFrameV
import Derived.Test.YtgkmlcghkkpgpaaVoLaw
import Derived.Test.YtgkmlcghkkpgpaaSetC
namespace Go.Proofs.Ytgkmlcghkkpgpaa.vocabPlain
open Go.ChangeShapes Go.WideShapes Go.ChangeAt Go.RowKit
open Go.ChangeMaps (open_string shut_string)
set_option linter.unusedVariables false

set_option maxHeartbeats 1000000 in
set_option maxRecDepth 100000 in
theorem walk (w : World) (n0 : Nat) (b0 : n0 < 256) :
    Calls Try.prog 4 #[.int .u8 n0] w (IsBool true w) := by
  have HP := Lib.hid (pplain_voc w)
  have HN := Lib.hid b0
  clear b0
  go_enter Try.func4, Try.ntmps4
  go_wp2_with (fail)
  refine (HP.out).mono ?_
  rintro e w1 ⟨A, c, rfl, ho, hb⟩
  rw [Vo.plain_len] at ho ⊢
  obtain ⟨g, x, rfl, -⟩ := ho.at_ (k := 0) (by rw [Vo.plain_len]; omega)
  have hb1 := hb.size
  obtain ⟨hg1, hg2⟩ := ho.lt_ g rfl
  obtain ⟨W1, hW1⟩ : ∃ W1, w1.alloc (.cells #[.slice (some ⟨g, 0, none⟩) 256 c] 24) = W1 := ⟨_, rfl⟩
  obtain ⟨hc1, hs1, hbx⟩ := boxed hW1
  have HO1 : Hid (OwnL pK W1 w.heap.size (.slice (some ⟨g, 0, none⟩) 256 c) (Vo.plain 256)) := by unfold Hid; rw [← hW1]; exact ho.alloc_ _
  have HB1 := Lib.hid (hb.trans (hbx.mono hb1))
  have HC1 := Lib.hid hc1
  clear ho hb hbx HP hs1
  go_wp2
  go_loopw [4] (fun i wr => ∃ (k : Nat) (t : List Vo.Pc), k ≤ 256 ∧ i = .int .i64 k ∧ Hid (t.length = 256) ∧ Hid (OwnL pK wr w.heap.size (.slice (some ⟨g, 0, none⟩) 256 c) t) ∧ Hid (wr.cell? ⟨w1.heap.size, 0, none⟩ = some (.slice (some ⟨g, 0, none⟩) 256 c)) ∧ Below w.heap.size w wr) (fun i _ => 256 - (intOf i).toNat)
  case atStart => exact ⟨0, _, by omega, rfl, Vo.plain_len 256, HO1.out, HC1.out, HB1.out⟩
  case round =>
    obtain ⟨k, t, hk, rfl, HT, HO, HC, hbr⟩ := hrel
    have hc := HC.out
    have HBr := Lib.hid hbr
    clear HO1 HB1 HC1 hc1 hbr
    by_cases hlt : k < 256
    · have hki : (k : Int) < 256 := by omega
      obtain ⟨g', p, e, -, -, hp, hq, hcell, hfr⟩ := HO.out.at_ (k := k) (by rw [HT.out]; exact hlt)
      obtain rfl : g = g' := by injection e with e; injection e with e
      have c1 := hcell 1 _ rfl
      have f1 := hfr (k * pK.size + 1)
      change wr.cell? ⟨g, k * 5 + 1, none⟩ = _ at c1
      change wr.frozen? ⟨g, k * 5 + 1, none⟩ = false at f1
      obtain ⟨hs, hgr⟩ := HO.out.setc_ (j := 1) (x' := { p with byte := n0 }) (u := .int .u8 (n0 : Nat)) hq (by show 1 < 5; omega) rfl ⟨HN.out, hp.2⟩
      have HS : Hid (OwnL pK (wr.setCell ⟨g, k * 5 + 1, none⟩ (.int .u8 (n0 : Nat))) w.heap.size (.slice (some ⟨g, 0, none⟩) 256 c) (t.set k { p with byte := n0 })) := hs
      have HT2 : Hid ((t.set k { p with byte := n0 }).length = 256) := by unfold Hid; rw [List.length_set]; exact HT.out
      have HC2 : Hid ((wr.setCell ⟨g, k * 5 + 1, none⟩ (.int .u8 (n0 : Nat))).cell? ⟨w1.heap.size, 0, none⟩ = some (.slice (some ⟨g, 0, none⟩) 256 c)) := by
        unfold Hid
        rw [World.cell?_setCell_other _ _ _ _ (by intro e; injection e with e; omega)]
        exact HC.out
      have HB2 := Lib.hid (HBr.out.setCell (p := ⟨g, k * 5 + 1, none⟩) hg1 (.int .u8 (n0 : Nat)))
      have HK : Hid (k + 1 ≤ 256) := hlt
      clear hcell hfr hs hgr hp hq HO e
      go_wp2
      go_roundw
      case rel => exact ⟨k + 1, _, HK.out, by go_num, HT2.out, HS.out, HC2.out, HB2.out⟩
      case measure => simp [intOf]; omega
    · have hki : ¬ (k : Int) < 256 := by omega
      have H1 := Lib.hid (pplain_voc wr)
      go_wp2_with (fail)
      refine (H1.out).mono ?_
      rintro e w2 ⟨A2, c2, rfl, ho2, hb2⟩
      have X2 := Lib.hid (HBr.out.trans (hb2.mono HBr.out.size))
      have O2 := Lib.hid ho2.form_
      have H2 := Lib.hid (rplain_any w2)
      clear ho2 hb2 H1
      go_wp2_with (fail)
      refine (H2.out).mono ?_
      rintro e w3 ⟨A3, c3, rfl, ho3, hb3⟩
      have X3 := Lib.hid (X2.out.trans (hb3.mono X2.out.size))
      have H3 := Lib.hid (voc_any _ _ _ _ _ _ w3 ((O2.out.below_ hb3 (Nat.le_refl _)).mono_ hb3.size) ho3.form_ (Nat.le_refl _) (Nat.le_refl _))
      simp only [decide_true] at H3
      clear ho3 hb3 H2 O2
      go_wp2_with (fail)
      refine (H3.out).mono ?_
      rintro e w4 ⟨rfl, hb4⟩
      have X4 := Lib.hid (X3.out.trans (hb4.mono X3.out.size))
      have H4 := Lib.hid (works_voc w4)
      clear hb4 H3
      go_wp2_with (fail)
      refine (H4.out).mono ?_
      rintro e w5 ⟨rfl, hb5⟩
      have X5 := Lib.hid (X4.out.trans (hb5.mono X4.out.size))
      clear hb5 H4
      go_wp2
      go_ret
      exact ⟨rfl, X5.out⟩

/-! ### From the walk to the row -/
set_option maxRecDepth 100000 in
theorem lifted (os : Os) (started : os.Started) (H : Type) (enc : TypeId × Value → H) :
    ReturnsInHanded {} Try.checked os 4 .any (Rows.vocabPlainSpec.pre6 enc Try.prog Try.f4 Rows.vocabPlainRow.domain false) (Rows.vocabPlainSpec.post enc Try.prog Try.f4 false true false false) := by
  refine returnsInHanded_of_change (C := Try.checked) own started (by kernel_rfl) Try.func4
    (ChangeSpec.witness6 (enc := enc) (C := Try.checked) false ⟨#[], #[.int .u8 0], []⟩ 8 (by kernel_rfl) (by kernel_rfl) (by kernel_rfl) (by kernel_rfl)) ?_
  intro W base args ds gs before hval0 hW hcnd _
  have hval : ∀ (j : Nat) t v, Try.f4.params[j]? = some t → args[j]? = some v → Value.okWide Try.prog W .any base t v := hval0
  have hW' := hW
  obtain ⟨p, q, hA0, hV, rfl, hfz, hnd⟩ := hW
  have hA : DataW.TrodAll enc Try.prog W 0 (fun _ => true) true Try.f4.params.toList args.toList ds p := hA0
  rw [Try.params4] at hA hval
  obtain ⟨v0, vs0, d0, ds0, p0, q0, hargs, rfl, rfl, h0, r0⟩ := trodAll_cons hA
  obtain ⟨rfl, rfl, rfl⟩ := trodAll_nil r0
  obtain rfl : args = #[v0] := by cases args; simp_all
  obtain ⟨rfl, rfl⟩ := trodVars_none hV
  obtain ⟨a0, rfl, rfl, rfl, w0⟩ := open_int Try.underlying5 (hval 0 5 v0 rfl rfl) h0
  obtain ⟨n0, e0, b0⟩ := u8_nat w0
  subst e0
  clear hA0 hval0
  refine (walk W n0 b0).mono fun e W' ⟨he, bel⟩ => ?_
  subst he
  exact ⟨_, rfl, _, _, _, [], _, [], hW', trodAll_mk1 (shut_bool Try.underlying4 _), (trodAll_cons_mk (shut_int Try.underlying5 w0) trodAll_mk0), rfl, bel.frame _, fun h => by cases h⟩

theorem proved : Rows.VocabPlainSaid :=
  OpenClaim.holds_of_wide 4 Try.f4 rfl rfl rfl rfl rfl rfl rfl ⟨rfl, rfl, rfl, rfl, rfl⟩ rfl rfl rfl rfl rfl (by kernel_rfl) Try.func4 (by kernel_rfl)
    (of_decide_eq_true (by kernel_rfl)) (by unfold Func.isWrapper; first | (rw [if_pos (by decide +kernel)]; kernel_rfl) | (rw [if_neg (by decide +kernel)]; exact ⟨rfl, rfl⟩))
    (fun os started H enc _ => lifted os started H enc)

end Go.Proofs.Ytgkmlcghkkpgpaa.vocabPlain
