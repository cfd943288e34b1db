/-
  BpeNone: no two tokens of a document that stand side by side can be joined, by its vocabulary. No condition.
-/
import Derived.Test.YtaedhccmdbodlaaPk29
import Derived.Test.YtaedhccmdbodlaaPk30
import Derived.Test.YtaedhccmdbodlaaPk31
import Derived.BigQuiet
import Derived.Deep.RegionHeld3
namespace Go.Proofs.Ytaedhccmdbodlaa.bpeNone
open Go.ChangeShapes Go.WideShapes Go.ChangeAt Go.RowKit
open Go.ChangeMaps (open_string shut_string)
set_option linter.unusedVariables false

set_option maxHeartbeats 4000000 in
set_option maxRecDepth 100000 in
theorem walk (w : World) (v0 : Value) (l0 : List Vo.Pc) (h0 : Lv pK w w.heap.size v0 l0) (v1 : Value) (l1 : List Nat) (h1 : Lv yK w w.heap.size v1 l1) :
    Calls Try.prog 12 #[.agg #[v0], v1] w (IsBool true w) := by
  obtain ⟨A1, c1', rfl, hd1, hd2, _, _⟩ := id h1
  have hl1 : l1.length ≤ 9223372036854775807 := by simp only [maxLen] at hd2; omega
  have H1 := Lib.hid h1
  have HI1 : I64 ((l1.length : Nat) : Int) := by unfold I64; omega
  clear hd1 hd2 h1
  by_cases hm : 500 < l0.length ∨ (300 < ((l1.length : Nat) : Int) ∧ ((l1.length : Nat) : Int) ≤ 4096)
  · skip
    have HM : Hid (decide (500 < l0.length ∨ (300 < ((l1.length : Nat) : Int) ∧ ((l1.length : Nat) : Int) ≤ 4096)) = true) := decide_eq_true hm
    clear hm
    obtain ⟨W, hW⟩ : ∃ X, w.alloc (.cells #[v0] 24) = X := ⟨_, rfl⟩
    obtain ⟨db, hsz, hbb⟩ := boxed hW
    have HB0 := Lib.hid hbb
    have Fv_0 := Lib.hid ((h0.below_ hbb (Nat.le_refl _)).mono_ hbb.size)
    have Fbox_0 : Hid (BoxAt W W.heap.size w.heap.size v0) := ⟨by omega, db⟩
    obtain ⟨A, c, rfl, hc1, hc2, _, _⟩ := h0
    have hl0 : l0.length ≤ 9223372036854775807 := by simp only [maxLen] at hc2; omega
    have dbox_0 := Fbox_0.out.2
    clear hc1 hc2 hbb hsz db
    go_enter Try.func12, Try.ntmps12
    have C1 := Lib.hid (rlong_any l0 _ ((l1.length : Nat) : Int) HI1 _ W Fv_0.out)
    rw [HM.out] at C1
    go_wp2_with (fail)
    refine (C1.out).mono ?_
    rintro e w1 ⟨rfl, b1⟩
    have HB1 := Lib.hid (HB0.out.trans (b1.mono HB0.out.size))
    have Fv_1 := Lib.hid ((Fv_0.out.below_ b1 (Nat.le_refl _)).mono_ b1.size)
    have Fbox_1 := Lib.hid ((Fbox_0.out.below_ b1 (Nat.le_refl _)).mono_ b1.size)
    have dbox_1 := Fbox_1.out.2
    clear C1 b1 HB0 Fv_0 Fbox_0 dbox_0
    clear Fv_1
    have C2 := Lib.hid (works_bp w1)
    go_wp2_with (fail)
    refine (C2.out).mono ?_
    rintro e w2 ⟨rfl, b2⟩
    have HB2 := Lib.hid (HB1.out.trans (b2.mono HB1.out.size))
    have Fbox_2 := Lib.hid ((Fbox_1.out.below_ b2 (Nat.le_refl _)).mono_ b2.size)
    have dbox_2 := Fbox_2.out.2
    clear C2 b2 HB1 Fbox_1 dbox_1
    go_wp2
    go_ret
    exact ⟨rfl, HB2.out⟩
  · skip
    have HM : Hid (decide (500 < l0.length ∨ (300 < ((l1.length : Nat) : Int) ∧ ((l1.length : Nat) : Int) ≤ 4096)) = false) := decide_eq_false hm
    have HP : Hid (l0.length ≤ 501) := by unfold Hid; omega
    have HFW : Hid (Bp.Few l1.length) := by unfold Hid Bp.Few; omega
    clear hm
    by_cases h60 : 60 < l1.length
    · skip
      have h6i : (60 : Int) < (l1.length : Int) := by omega
      clear h60
      obtain ⟨W, hW⟩ : ∃ X, w.alloc (.cells #[v0] 24) = X := ⟨_, rfl⟩
      obtain ⟨db, hsz, hbb⟩ := boxed hW
      have HB0 := Lib.hid hbb
      have Fv_0 := Lib.hid ((h0.below_ hbb (Nat.le_refl _)).mono_ hbb.size)
      have Fbox_0 : Hid (BoxAt W W.heap.size w.heap.size v0) := ⟨by omega, db⟩
      obtain ⟨A, c, rfl, hc1, hc2, _, _⟩ := h0
      have hl0 : l0.length ≤ 9223372036854775807 := by simp only [maxLen] at hc2; omega
      have dbox_0 := Fbox_0.out.2
      clear hc1 hc2 hbb hsz db
      go_enter Try.func12, Try.ntmps12
      have C1 := Lib.hid (rlong_any l0 _ ((l1.length : Nat) : Int) HI1 _ W Fv_0.out)
      rw [HM.out] at C1
      go_wp2_with (fail)
      refine (C1.out).mono ?_
      rintro e w1 ⟨rfl, b1⟩
      have HB1 := Lib.hid (HB0.out.trans (b1.mono HB0.out.size))
      have Fv_1 := Lib.hid ((Fv_0.out.below_ b1 (Nat.le_refl _)).mono_ b1.size)
      have Fbox_1 := Lib.hid ((Fbox_0.out.below_ b1 (Nat.le_refl _)).mono_ b1.size)
      have dbox_1 := Fbox_1.out.2
      clear C1 b1 HB0 Fv_0 Fbox_0 dbox_0
      clear Fv_1
      have C2 := Lib.hid (works_bp w1)
      go_wp2_with (fail)
      refine (C2.out).mono ?_
      rintro e w2 ⟨rfl, b2⟩
      have HB2 := Lib.hid (HB1.out.trans (b2.mono HB1.out.size))
      have Fbox_2 := Lib.hid ((Fbox_1.out.below_ b2 (Nat.le_refl _)).mono_ b2.size)
      have dbox_2 := Fbox_2.out.2
      clear C2 b2 HB1 Fbox_1 dbox_1
      go_wp2
      go_ret
      exact ⟨rfl, HB2.out⟩
    · skip
      have h6i : ¬ (60 : Int) < (l1.length : Int) := by omega
      have HL6 := Lib.hid h60
      clear h60
      rcases Bp.encE_cases l0 l1 with ⟨hmay, hln, hx⟩ | ⟨E, hE, hx⟩
      · skip
        have HNO : Hid (∀ (i : Nat) (p q : Int), (Bp.enc l0 l1)[i]? = some p → (Bp.enc l0 l1)[i + 1]? = some q → Vo.findE l0 p q = (0, false)) := fun i p q h1 h2 => Bp.enc_no l0 l1 h1 h2
        have hle : (Bp.enc l0 l1).length ≤ l1.length := Bp.enc_len
        obtain ⟨x, hxe⟩ : ∃ x, Bp.enc l0 l1 = x := ⟨_, rfl⟩
        rw [hxe] at hx hle HNO
        have HLX : Hid (x.length ≤ 60) := by have := HL6.out; unfold Hid; omega
        have HX := Lib.hid hx
        clear hx hxe hmay hln hle
        obtain ⟨W, hW⟩ : ∃ X, w.alloc (.cells #[v0] 24) = X := ⟨_, rfl⟩
        obtain ⟨db, hsz, hbb⟩ := boxed hW
        have HB0 := Lib.hid hbb
        have Fv_0 := Lib.hid ((h0.below_ hbb (Nat.le_refl _)).mono_ hbb.size)
        have Fbox_0 : Hid (BoxAt W W.heap.size w.heap.size v0) := ⟨by omega, db⟩
        obtain ⟨A, c, rfl, hc1, hc2, _, _⟩ := h0
        have hl0 : l0.length ≤ 9223372036854775807 := by simp only [maxLen] at hc2; omega
        have dbox_0 := Fbox_0.out.2
        clear hc1 hc2 hbb hsz db
        go_enter Try.func12, Try.ntmps12
        have Fb_0 := Lib.hid ((H1.out.below_ HB0.out (Nat.le_refl _)).mono_ HB0.out.size)
        have C1 := Lib.hid (rlong_any l0 _ ((l1.length : Nat) : Int) HI1 _ W Fv_0.out)
        rw [HM.out] at C1
        go_wp2_with (fail)
        refine (C1.out).mono ?_
        rintro e w1 ⟨rfl, b1⟩
        have HB1 := Lib.hid (HB0.out.trans (b1.mono HB0.out.size))
        have Fv_1 := Lib.hid ((Fv_0.out.below_ b1 (Nat.le_refl _)).mono_ b1.size)
        have Fbox_1 := Lib.hid ((Fbox_0.out.below_ b1 (Nat.le_refl _)).mono_ b1.size)
        have Fb_1 := Lib.hid ((Fb_0.out.below_ b1 (Nat.le_refl _)).mono_ b1.size)
        have dbox_1 := Fbox_1.out.2
        clear C1 b1 HB0 Fv_0 Fbox_0 Fb_0 dbox_0
        have C2 := Lib.hid (pencode_any l0 _ l1 _ _ w1 Fv_1.out Fb_1.out (Nat.le_refl _) HP.out HFW.out)
        rw [HX.out] at C2
        go_wp2_with (fail)
        refine (C2.out).mono ?_
        rintro e w2 ⟨A2, c2, rfl, o2, b2⟩
        have HB2 := Lib.hid (HB1.out.trans (b2.mono HB1.out.size))
        have Fv_2 := Lib.hid ((Fv_1.out.below_ b2 (Nat.le_refl _)).mono_ b2.size)
        have Fbox_2 := Lib.hid ((Fbox_1.out.below_ b2 (Nat.le_refl _)).mono_ b2.size)
        have Fb_2 := Lib.hid ((Fb_1.out.below_ b2 (Nat.le_refl _)).mono_ b2.size)
        have dbox_2 := Fbox_2.out.2
        have Fx_2 := Lib.hid (o2.form_)
        clear C2 b2 HB1 Fv_1 Fbox_1 Fb_1 dbox_1 o2
        clear Fb_2
        clear HX
        simp only [Int.natCast_zero]
        have HBX : Hid (∀ w', Below w2.heap.size w2 w' → w'.cell? ⟨w.heap.size, 0, none⟩ = some (.slice A l0.length c)) := fun w' hb => (Fbox_2.out.below_ hb (Nat.le_refl _)).2
        go_wp2
        go_loopw [7, 8, 9] (fun i _ _ wr => ∃ k : Nat, (k = 0 ∨ k + 1 ≤ x.length) ∧ i = .int .i64 (k : Nat) ∧ Hid (Below w2.heap.size w2 wr)) (fun i _ _ _ => x.length - (intOf i).toNat)
        case atStart => exact ⟨0, .inl rfl, rfl, Below.refl _ _⟩
        case round =>
          obtain ⟨k, hk, rfl, hbr⟩ := hrel
          have hk60 := HLX.out
          have wk : IntKind.i64.wrap ((k : Int) + 1) = (k : Int) + 1 := by rw [IntKind.wrap_i64]; omega
          by_cases hlt : k + 1 < x.length
          · have hki : (k : Int) + 1 < (x.length : Int) := by omega
            have hk0 : (0 : Int) ≤ (k : Int) := by omega
            have hk1 : (k : Int) < (x.length : Int) := by omega
            have hk2 : (0 : Int) ≤ (k : Int) + 1 := by omega
            have hk3 : ((k : Int) + 1).toNat = k + 1 := by omega
            have HXR := Fx_2.out.below_ hbr.out.drew (Nat.le_refl _)
            obtain ⟨b2, o2, p, rfl, hb2, hp, hqp, hcp⟩ := HXR.int_ (k := k) (by omega)
            obtain ⟨b2', o2', q, e2, hb2', hq, hqq, hcq⟩ := HXR.int_ (k := k + 1) hlt
            injection e2 with e2
            injection e2 with e3 e4
            subst e3 e4
            have HBd : Hid (Below w2.heap.size w2 wr.drew) := hbr.out.drew
            have HC0 := rfind_any l0 _ p q _ wr.drew ((Fv_2.out.below_ HBd.out (Nat.le_refl _)).mono_ HBd.out.size) (Nat.le_refl _)
            rw [HNO.out k p q hqp hqq] at HC0
            have HC1 : Hid (Calls Try.prog 32 #[.agg #[.slice A l0.length c], .int .i64 p, .int .i64 q] wr.drew (fun e w' => e = .returned (.tuple #[.int .i64 0, .bool false]) ∧ Below wr.drew.heap.size wr.drew w')) := HC0
            have HCX : Hid (∀ w', Below wr.drew.heap.size wr.drew w' → w'.cell? ⟨b2, o2 + k, none⟩ = some (.int .i64 p) ∧ w'.cell? ⟨b2, o2 + (k + 1), none⟩ = some (.int .i64 q)) := fun w' hb => by
              have hs := HBd.out.size
              exact ⟨(hb.cell (p := ⟨b2, o2 + k, none⟩) (by show b2 < _; omega)).trans hcp, (hb.cell (p := ⟨b2, o2 + (k + 1), none⟩) (by show b2 < _; omega)).trans hcq⟩
            have s0 : wr.drew.cell? ⟨w.heap.size, 0, none⟩ = some (.slice A l0.length c) ∧ wr.drew.cell? ⟨b2, o2 + k, none⟩ = some (.int .i64 p) ∧ wr.drew.cell? ⟨b2, o2 + (k + 1), none⟩ = some (.int .i64 q) := ⟨HBX.out _ HBd.out, hcp, hcq⟩
            have HLT := Lib.hid hlt
            clear HC0 hp hq hqp hqq hcp hcq hb2 hb2' hlt hk HXR
            go_wp2
            go_region_held3 (fun w' => w'.cell? ⟨w.heap.size, 0, none⟩ = some (.slice A l0.length c) ∧ w'.cell? ⟨b2, o2 + k, none⟩ = some (.int .i64 p) ∧ w'.cell? ⟨b2, o2 + (k + 1), none⟩ = some (.int .i64 q))
              (first | exact s0 | exact s1)
              (first | (go_at_call 32; (with_reducible refine HC1.out.mono ?_); rintro en w9 ⟨rfl, hb3⟩; have HB9 := Lib.hid (HBd.out.trans (hb3.mono HBd.out.size)); have s1 := (⟨HBX.out w9 HB9.out, HCX.out w9 hb3⟩ : w9.cell? ⟨w.heap.size, 0, none⟩ = some (.slice A l0.length c) ∧ w9.cell? ⟨b2, o2 + k, none⟩ = some (.int .i64 p) ∧ w9.cell? ⟨b2, o2 + (k + 1), none⟩ = some (.int .i64 q)); clear hb3))
            all_goals (
              clear s0 s1 HC1 HBd HCX
              go_wp2
              go_roundw
              case rel => exact ⟨k + 1, .inr HLT.out, by go_num, HB9.out⟩
              case measure => simp [intOf]; have := HLT.out; omega)
          · have hki : ¬ (k : Int) + 1 < (x.length : Int) := by omega
            have HBz := Lib.hid (HB2.out.trans (hbr.out.mono HB2.out.size))
            have C9 := Lib.hid (works_bp wr)
            clear hlt hk
            go_wp2_with (fail)
            refine (C9.out).mono ?_
            rintro e wz ⟨rfl, bz⟩
            have HBy := Lib.hid (HBz.out.trans (bz.mono HBz.out.size))
            clear C9 bz
            go_wp2
            go_ret
            exact ⟨rfl, HBy.out⟩
      · skip
        have hEi : ((E : Int) != 0) = true := by rw [bne_iff_ne]; omega
        have HX := Lib.hid hx
        clear hx hE
        obtain ⟨W, hW⟩ : ∃ X, w.alloc (.cells #[v0] 24) = X := ⟨_, rfl⟩
        obtain ⟨db, hsz, hbb⟩ := boxed hW
        have HB0 := Lib.hid hbb
        have Fv_0 := Lib.hid ((h0.below_ hbb (Nat.le_refl _)).mono_ hbb.size)
        have Fbox_0 : Hid (BoxAt W W.heap.size w.heap.size v0) := ⟨by omega, db⟩
        obtain ⟨A, c, rfl, hc1, hc2, _, _⟩ := h0
        have hl0 : l0.length ≤ 9223372036854775807 := by simp only [maxLen] at hc2; omega
        have dbox_0 := Fbox_0.out.2
        clear hc1 hc2 hbb hsz db
        go_enter Try.func12, Try.ntmps12
        have Fb_0 := Lib.hid ((H1.out.below_ HB0.out (Nat.le_refl _)).mono_ HB0.out.size)
        have C1 := Lib.hid (rlong_any l0 _ ((l1.length : Nat) : Int) HI1 _ W Fv_0.out)
        rw [HM.out] at C1
        go_wp2_with (fail)
        refine (C1.out).mono ?_
        rintro e w1 ⟨rfl, b1⟩
        have HB1 := Lib.hid (HB0.out.trans (b1.mono HB0.out.size))
        have Fv_1 := Lib.hid ((Fv_0.out.below_ b1 (Nat.le_refl _)).mono_ b1.size)
        have Fbox_1 := Lib.hid ((Fbox_0.out.below_ b1 (Nat.le_refl _)).mono_ b1.size)
        have Fb_1 := Lib.hid ((Fb_0.out.below_ b1 (Nat.le_refl _)).mono_ b1.size)
        have dbox_1 := Fbox_1.out.2
        clear C1 b1 HB0 Fv_0 Fbox_0 Fb_0 dbox_0
        have C2 := Lib.hid (pencode_any l0 _ l1 _ _ w1 Fv_1.out Fb_1.out (Nat.le_refl _) HP.out HFW.out)
        rw [HX.out] at C2
        go_wp2_with (fail)
        refine (C2.out).mono ?_
        rintro e w2 ⟨A2, c2, rfl, o2, b2⟩
        have HB2 := Lib.hid (HB1.out.trans (b2.mono HB1.out.size))
        have Fv_2 := Lib.hid ((Fv_1.out.below_ b2 (Nat.le_refl _)).mono_ b2.size)
        have Fbox_2 := Lib.hid ((Fbox_1.out.below_ b2 (Nat.le_refl _)).mono_ b2.size)
        have Fb_2 := Lib.hid ((Fb_1.out.below_ b2 (Nat.le_refl _)).mono_ b2.size)
        have dbox_2 := Fbox_2.out.2
        have Fx_2 := Lib.hid (o2.form_)
        clear C2 b2 HB1 Fv_1 Fbox_1 Fb_1 dbox_1 o2
        clear Fv_2
        clear Fb_2
        clear Fx_2
        have C3 := Lib.hid (works_bp w2)
        go_wp2_with (fail)
        refine (C3.out).mono ?_
        rintro e w3 ⟨rfl, b3⟩
        have HB3 := Lib.hid (HB2.out.trans (b3.mono HB2.out.size))
        have Fbox_3 := Lib.hid ((Fbox_2.out.below_ b3 (Nat.le_refl _)).mono_ b3.size)
        have dbox_3 := Fbox_3.out.2
        clear C3 b3 HB2 Fbox_2 dbox_2
        go_wp2
        go_ret
        exact ⟨rfl, HB3.out⟩

/-! ### From the walk to the row -/
set_option maxRecDepth 100000 in
theorem lifted (os : Os) (started : os.Started) (H : Type) (enc : TypeId × Value → H) :
    ReturnsInHanded {} Try.checked os 12 .any (Rows.bpeNoneSpec.pre6 enc Try.prog Try.f12 Rows.bpeNoneRow.domain false) (Rows.bpeNoneSpec.post enc Try.prog Try.f12 false true false false) := by
  refine returnsInHanded_of_change (C := Try.checked) own started (by kernel_rfl) Try.func12
    (ChangeSpec.witness6 (enc := enc) (C := Try.checked) false ⟨#[], #[.agg #[.slice none 0 0], .slice none 0 0], []⟩ 8 (by kernel_rfl) (by kernel_rfl) (by kernel_rfl) (by kernel_rfl)) ?_
  intro W base args ds gs before hval0 hW hcnd _
  have hval : ∀ (j : Nat) t v, Try.f12.params[j]? = some t → args[j]? = some v → Value.okWide Try.prog W .any base t v := hval0
  have hW' := hW
  obtain ⟨p, q, hA0, hV, rfl, hfz, hnd⟩ := hW
  have hA : DataW.TrodAll enc Try.prog W 0 (fun _ => true) true Try.f12.params.toList args.toList ds p := hA0
  rw [Try.params12] at hA hval
  obtain ⟨v0, vs0, d0, ds0, p0, q0, hargs, rfl, rfl, h0, r0⟩ := trodAll_cons hA
  obtain ⟨v1, vs1, d1, ds1, p1, q1, rfl, rfl, rfl, h1, r1⟩ := trodAll_cons r0
  obtain ⟨rfl, rfl, rfl⟩ := trodAll_nil r1
  obtain rfl : args = #[v0, v1] := by cases args; simp_all
  obtain ⟨rfl, rfl⟩ := trodVars_none hV
  have k0 := h0
  have lt0 : ∀ x ∈ p0, x.block < W.heap.size := by obtain ⟨m, hm⟩ := k0; exact DataW.trod_lt m _ _ _ hm
  obtain ⟨u0, l0, rfl, hb0⟩ := voc_in (hval 0 24 v0 rfl rfl) h0
  obtain ⟨a1, len1, cap1, rfl⟩ := okWide_slice Try.underlying25 (hval 1 25 v1 rfl rfl)
  have k1 := h1
  have lt1 : ∀ x ∈ p1, x.block < W.heap.size := by obtain ⟨m, hm⟩ := k1; exact DataW.trod_lt m _ _ _ hm
  obtain ⟨l1, len_1, hb1⟩ : ∃ l : List Nat, l.length = len1 ∧ Lv yK W W.heap.size (.slice a1 len1 cap1) l := by
    obtain ⟨fuel, hf⟩ := h1
    exact octs_in hf
  clear hA0 hval0
  refine (walk W u0 l0 hb0 (.slice a1 len1 cap1) l1 hb1).mono fun e W' ⟨he, bel⟩ => ?_
  subst he
  exact ⟨_, rfl, _, _, _, [], _, [], hW', trodAll_mk1 (shut_bool Try.underlying4 _), (trodAll_cons_mk (Below.trod laidOut (by kernel_rfl) (of_decide_eq_true (by kernel_rfl)) k0 bel lt0) (trodAll_cons_mk (Below.trod laidOut (by kernel_rfl) (of_decide_eq_true (by kernel_rfl)) k1 bel lt1) trodAll_mk0)), rfl, bel.frame _, fun h => by cases h⟩

theorem proved : Rows.BpeNoneSaid :=
  OpenClaim.holds_of_wide 12 Try.f12 rfl rfl rfl rfl rfl rfl rfl ⟨rfl, rfl, rfl, rfl, rfl⟩ rfl rfl rfl rfl rfl (by kernel_rfl) Try.func12 (by kernel_rfl)
    (of_decide_eq_true (by kernel_rfl)) (by unfold Func.isWrapper; first | (rw [if_pos (by decide +kernel)]; kernel_rfl) | (rw [if_neg (by decide +kernel)]; exact ⟨rfl, rfl⟩))
    (fun os started H enc _ => lifted os started H enc)

end Go.Proofs.Ytaedhccmdbodlaa.bpeNone
