/-
  PackSmall: a row has no more than three bytes for each token, and three; a token that is the one ahead has one. No condition.
-/
import Derived.Test.YtapedjcchcgoeaaFrameI
import Derived.Test.YtapedjcchcgoeaaFrameU
import Derived.Test.YtapedjcchcgoeaaPkLaw
import Derived.Test.YtapedjcchcgoeaaPkMathC
import Derived.Test.YtapedjcchcgoeaaBvLv
namespace Go.Proofs.Ytapedjcchcgoeaa.packSmall
open Go.ChangeShapes Go.WideShapes Go.ChangeAt Go.RowKit
open Go.ChangeMaps (open_string shut_string)
set_option linter.unusedVariables false

set_option maxHeartbeats 2000000 in
set_option maxRecDepth 100000 in
theorem walk (w : World) (v0 : Value) (l0 : List Int) (h0 : Lv iK w w.heap.size v0 l0) (n1 : Nat) (b1 : n1 < 65536) (n2 : Nat) (b2 : n2 < 65536) :
    Calls Try.prog 9 #[v0, .int .u16 (n1 : Nat), .int .u16 (n2 : Nat)] w (IsBool true w) := by
  obtain ⟨⟨q, E⟩, hx⟩ : ∃ r, Pk.putE l0 = r := ⟨_, rfl⟩
  obtain ⟨M, hM⟩ : ∃ M, n2 % 500 = M := ⟨_, rfl⟩
  have H0 := Lib.hid h0
  obtain ⟨A0, c0, rfl, -, -, -, -, -⟩ := h0
  have hM5 : M < 500 := by omega
  have hrem : (n2 : Int).tmod 500 = (M : Int) := by rw [Int.tmod_eq_emod_of_nonneg (by omega)]; omega
  have hI : I64 (n1 : Int) := by unfold I64; omega
  have HI := Lib.hid hI
  have hx2 : Pk.Tok (n1 : Int) := by unfold Pk.Tok; omega
  obtain ⟨F, hF⟩ : ∃ F, (Mt.put (Pk.fold (n1 : Int))).length = F := ⟨_, rfl⟩
  have hFl : F ≤ 10 := by rw [← hF]; exact Mt.put_len_le _
  obtain ⟨p1, hp1, hl1⟩ : ∃ p, Pk.putE [(n1 : Int)] = (p, 0) ∧ p.length = F + 1 := by
    obtain ⟨e1, e2⟩ := Pk.putE_same hx2 (k := 0) (by omega)
    refine ⟨_, e1, ?_⟩
    rw [e2, Pk.put_l1 (by omega), hF]
    omega
  obtain ⟨p2, hp2, hl2⟩ : ∃ p, Pk.putE (List.replicate (M + 1) (n1 : Int)) = (p, 0) ∧ p.length = F + 1 + M + (if 127 < M + 1 then 1 else 0) := by
    obtain ⟨e1, e2⟩ := Pk.putE_same hx2 (k := M) (by omega)
    refine ⟨_, e1, ?_⟩
    rw [e2, hF]
    split
    · rw [Pk.put_l2 (by omega) (by omega)]; omega
    · rw [Pk.put_l1 (by omega)]; omega
  have HP1 := Lib.hid hp1
  have HP2 := Lib.hid hp2
  have HL : Hid (p1.length = F + 1 ∧ p2.length = F + 1 + M + (if 127 < M + 1 then 1 else 0)) := ⟨hl1, hl2⟩
  clear hI hx2 hF hp1 hp2 hl1 hl2 hM
  by_cases hE : E = 0
  · skip
    subst hE
    have hq := Pk.putE_small hx
    have hl0 : l0.length ≤ 65536 := by
      unfold Pk.putE at hx
      apply Decidable.byContradiction
      intro h
      rw [if_pos (by omega)] at hx
      cases hx
    have hle : ¬ ((3 : Int) + 3 * (l0.length : Int) < (q.length : Int)) := by omega
    have w3 : IntKind.i64.wrap (3 * (l0.length : Int)) = 3 * (l0.length : Int) := by rw [IntKind.wrap_i64]; omega
    have w4 : IntKind.i64.wrap (3 + 3 * (l0.length : Int)) = 3 + 3 * (l0.length : Int) := by rw [IntKind.wrap_i64]; omega
    have HX := Lib.hid hx
    clear hx hq hl0
    have Fl_0 := Lib.hid (H0.out)
    clear H0
    have HB0 := Lib.hid (Below.refl w.heap.size w)
    go_enter Try.func9, Try.ntmps9
    have C1 := Lib.hid (ppput_any l0 _ _ w Fl_0.out (Nat.le_refl _))
    rw [HX.out] at C1
    go_wp2_with (fail)
    refine (C1.out).mono ?_
    rintro e w1 ⟨A1, c1, rfl, o1, b1⟩
    have HB1 := Lib.hid (HB0.out.trans (b1.mono HB0.out.size))
    have Fl_1 := Lib.hid ((Fl_0.out.below_ b1 (Nat.le_refl _)).mono_ b1.size)
    have Fq_1 := Lib.hid (o1.form_)
    clear C1 b1 HB0 Fl_0 o1
    clear Fl_1
    clear Fq_1
    go_wp2
    go_loopw [9, 10] (fun s i wr => ∃ (k : Nat) (Ak : Option Addr) (ck : Nat), k ≤ M + 1 ∧ i = .int .i64 k ∧ s = .slice Ak k ck ∧ Hid (OwnL iK wr w1.heap.size (.slice Ak k ck) (List.replicate k (n1 : Int))) ∧ Hid (Below w1.heap.size w1 wr)) (fun _ i _ => M + 1 - (intOf i).toNat)
    case atStart => exact ⟨0, none, 0, Nat.zero_le _, rfl, rfl, OwnL.nil_ _ _ _, Below.refl _ _⟩
    case round =>
      obtain ⟨k, Ak, ck, hk, rfl, rfl, HO, HBr⟩ := hrel
      by_cases hlt : k ≤ M
      · have hki : (k : Int) ≤ (M : Int) := by omega
        have wk : IntKind.i64.wrap ((k : Int) + 1) = (k : Int) + 1 := by rw [IntKind.wrap_i64]; omega
        go_wp2_with (at_builtin; go_must (refine wpList_push_m _ iK rfl _ _ rfl w1.heap.size _ rfl (List.replicate k (n1 : Int)) HO.out rfl (n1 : Int) HI.out _ rfl _ rfl (by show _ * 8 ≤ _; rw [List.length_replicate]; omega) (by rw [List.length_replicate]; simp only [maxLen]; omega) HBr.out.size ?_))
        intro A3 c3 w3 hA hG hM
        have HA : Hid (OwnL iK w3 w1.heap.size (.slice A3 (k + 1) c3) (List.replicate (k + 1) (n1 : Int))) := by unfold Hid; rw [List.replicate_succ']; exact hA
        have HB3 := Lib.hid (HBr.out.grown hG HBr.out.size (fun j hj => (HO.out.lt_ j hj).1))
        clear hA hG hM
        go_wp2
        go_roundw
        case rel => exact ⟨k + 1, A3, c3, by omega, by go_num, rfl, HA.out, HB3.out⟩
        case measure => simp [intOf]; omega
      · obtain rfl : k = M + 1 := by omega
        have hki : ¬ (((M + 1 : Nat) : Int) ≤ (M : Int)) := by omega
        obtain ⟨g, -, eA, -⟩ := HO.out.at_ (k := 0) (by rw [List.length_replicate]; omega)
        subst eA
        have hcap : 1 ≤ ck := by
          obtain ⟨_, _, e, h1, _⟩ := HO.out.form_
          injection e with _ _ e
          rw [List.length_replicate] at h1
          omega
        have ht := HO.out.form_.take_ (k := 1) (by rw [List.length_replicate]; omega)
        rw [List.take_replicate, show min 1 (M + 1) = 1 by omega] at ht
        have HT1 : Hid (Lv iK wr wr.heap.size (.slice (some ⟨g, 0, none⟩) 1 ck) [(n1 : Int)]) := ht
        have HWH : Hid (∀ w', Below wr.heap.size wr w' → Lv iK w' w'.heap.size (.slice (some ⟨g, 0, none⟩) (M + 1) ck) (List.replicate (M + 1) (n1 : Int))) := fun w' hb => (HO.out.form_.below_ hb (Nat.le_refl _)).mono_ hb.size
        have HC1 := Lib.hid (ppsize_any [(n1 : Int)] _ _ wr HT1.out (Nat.le_refl _))
        rw [HP1.out] at HC1
        simp only at HC1
        clear ht HO
        have hgc : (1 : Int) ≤ (ck : Int) := by omega
        go_wp2_with (fail)
        refine (HC1.out).mono ?_
        rintro e w5 ⟨rfl, hb5⟩
        have HB5 : Hid (Below w1.heap.size w1 w5) := HBr.out.trans (hb5.mono HBr.out.size)
        have HC2 := Lib.hid (ppsize_any (List.replicate (M + 1) (n1 : Int)) _ _ w5 (HWH.out w5 hb5) (Nat.le_refl _))
        rw [HP2.out] at HC2
        simp only at HC2
        clear HC1 hb5 HWH HT1
        go_wp2_with (fail)
        refine (HC2.out).mono ?_
        rintro e w6 ⟨rfl, hb6⟩
        have HB6 : Hid (Below w.heap.size w w6) := HB1.out.trans ((HB5.out.trans (hb6.mono HB5.out.size)).mono HB1.out.size)
        have HW := Lib.hid (works_pk w6)
        obtain ⟨g1, g2⟩ := HL.out
        clear hb6 HC2 HB5
        by_cases h127 : 127 < M + 1
        · rw [if_pos h127] at g2
          have z1 : (127 : Int) < (M : Int) + 1 := by omega
          have z2 : IntKind.i64.wrap ((M : Int) + 1) = (M : Int) + 1 := by rw [IntKind.wrap_i64]; omega
          have z3 : IntKind.i64.wrap ((p1.length : Int) + ((M : Int) + 1)) = (p1.length : Int) + ((M : Int) + 1) := by rw [IntKind.wrap_i64]; omega
          have z4 : ((p2.length : Int) == (p1.length : Int) + ((M : Int) + 1)) = true := by rw [beq_iff_eq]; omega
          clear g1 g2 h127
          go_wp2_with (fail)
          refine (HW.out).mono ?_
          rintro e w7 ⟨rfl, hb7⟩
          have HB7 := Lib.hid (HB6.out.trans (hb7.mono HB6.out.size))
          clear hb7 HW
          go_wp2
          go_ret
          exact ⟨rfl, HB7.out⟩
        · rw [if_neg h127] at g2
          have z1 : ¬ (127 : Int) < (M : Int) + 1 := by omega
          have z3 : IntKind.i64.wrap ((p1.length : Int) + (M : Int)) = (p1.length : Int) + (M : Int) := by rw [IntKind.wrap_i64]; omega
          have z4 : ((p2.length : Int) == (p1.length : Int) + (M : Int)) = true := by rw [beq_iff_eq]; omega
          clear g1 g2 h127
          go_wp2_with (fail)
          refine (HW.out).mono ?_
          rintro e w7 ⟨rfl, hb7⟩
          have HB7 := Lib.hid (HB6.out.trans (hb7.mono HB6.out.size))
          clear hb7 HW
          go_wp2
          go_ret
          exact ⟨rfl, HB7.out⟩
  · skip
    have hEi : ((E : Int) == 0) = false := by rw [beq_eq_false_iff_ne]; omega
    have HX := Lib.hid hx
    clear hx hE
    have Fl_0 := Lib.hid (H0.out)
    clear H0
    have HB0 := Lib.hid (Below.refl w.heap.size w)
    go_enter Try.func9, Try.ntmps9
    have C1 := Lib.hid (ppput_any l0 _ _ w Fl_0.out (Nat.le_refl _))
    rw [HX.out] at C1
    go_wp2_with (fail)
    refine (C1.out).mono ?_
    rintro e w1 ⟨A1, c1, rfl, o1, b1⟩
    have HB1 := Lib.hid (HB0.out.trans (b1.mono HB0.out.size))
    have Fl_1 := Lib.hid ((Fl_0.out.below_ b1 (Nat.le_refl _)).mono_ b1.size)
    have Fq_1 := Lib.hid (o1.form_)
    clear C1 b1 HB0 Fl_0 o1
    clear Fl_1
    clear Fq_1
    go_wp2
    go_loopw [9, 10] (fun s i wr => ∃ (k : Nat) (Ak : Option Addr) (ck : Nat), k ≤ M + 1 ∧ i = .int .i64 k ∧ s = .slice Ak k ck ∧ Hid (OwnL iK wr w1.heap.size (.slice Ak k ck) (List.replicate k (n1 : Int))) ∧ Hid (Below w1.heap.size w1 wr)) (fun _ i _ => M + 1 - (intOf i).toNat)
    case atStart => exact ⟨0, none, 0, Nat.zero_le _, rfl, rfl, OwnL.nil_ _ _ _, Below.refl _ _⟩
    case round =>
      obtain ⟨k, Ak, ck, hk, rfl, rfl, HO, HBr⟩ := hrel
      by_cases hlt : k ≤ M
      · have hki : (k : Int) ≤ (M : Int) := by omega
        have wk : IntKind.i64.wrap ((k : Int) + 1) = (k : Int) + 1 := by rw [IntKind.wrap_i64]; omega
        go_wp2_with (at_builtin; go_must (refine wpList_push_m _ iK rfl _ _ rfl w1.heap.size _ rfl (List.replicate k (n1 : Int)) HO.out rfl (n1 : Int) HI.out _ rfl _ rfl (by show _ * 8 ≤ _; rw [List.length_replicate]; omega) (by rw [List.length_replicate]; simp only [maxLen]; omega) HBr.out.size ?_))
        intro A3 c3 w3 hA hG hM
        have HA : Hid (OwnL iK w3 w1.heap.size (.slice A3 (k + 1) c3) (List.replicate (k + 1) (n1 : Int))) := by unfold Hid; rw [List.replicate_succ']; exact hA
        have HB3 := Lib.hid (HBr.out.grown hG HBr.out.size (fun j hj => (HO.out.lt_ j hj).1))
        clear hA hG hM
        go_wp2
        go_roundw
        case rel => exact ⟨k + 1, A3, c3, by omega, by go_num, rfl, HA.out, HB3.out⟩
        case measure => simp [intOf]; omega
      · obtain rfl : k = M + 1 := by omega
        have hki : ¬ (((M + 1 : Nat) : Int) ≤ (M : Int)) := by omega
        obtain ⟨g, -, eA, -⟩ := HO.out.at_ (k := 0) (by rw [List.length_replicate]; omega)
        subst eA
        have hcap : 1 ≤ ck := by
          obtain ⟨_, _, e, h1, _⟩ := HO.out.form_
          injection e with _ _ e
          rw [List.length_replicate] at h1
          omega
        have ht := HO.out.form_.take_ (k := 1) (by rw [List.length_replicate]; omega)
        rw [List.take_replicate, show min 1 (M + 1) = 1 by omega] at ht
        have HT1 : Hid (Lv iK wr wr.heap.size (.slice (some ⟨g, 0, none⟩) 1 ck) [(n1 : Int)]) := ht
        have HWH : Hid (∀ w', Below wr.heap.size wr w' → Lv iK w' w'.heap.size (.slice (some ⟨g, 0, none⟩) (M + 1) ck) (List.replicate (M + 1) (n1 : Int))) := fun w' hb => (HO.out.form_.below_ hb (Nat.le_refl _)).mono_ hb.size
        have HC1 := Lib.hid (ppsize_any [(n1 : Int)] _ _ wr HT1.out (Nat.le_refl _))
        rw [HP1.out] at HC1
        simp only at HC1
        clear ht HO
        have hgc : (1 : Int) ≤ (ck : Int) := by omega
        go_wp2_with (fail)
        refine (HC1.out).mono ?_
        rintro e w5 ⟨rfl, hb5⟩
        have HB5 : Hid (Below w1.heap.size w1 w5) := HBr.out.trans (hb5.mono HBr.out.size)
        have HC2 := Lib.hid (ppsize_any (List.replicate (M + 1) (n1 : Int)) _ _ w5 (HWH.out w5 hb5) (Nat.le_refl _))
        rw [HP2.out] at HC2
        simp only at HC2
        clear HC1 hb5 HWH HT1
        go_wp2_with (fail)
        refine (HC2.out).mono ?_
        rintro e w6 ⟨rfl, hb6⟩
        have HB6 : Hid (Below w.heap.size w w6) := HB1.out.trans ((HB5.out.trans (hb6.mono HB5.out.size)).mono HB1.out.size)
        have HW := Lib.hid (works_pk w6)
        obtain ⟨g1, g2⟩ := HL.out
        clear hb6 HC2 HB5
        by_cases h127 : 127 < M + 1
        · rw [if_pos h127] at g2
          have z1 : (127 : Int) < (M : Int) + 1 := by omega
          have z2 : IntKind.i64.wrap ((M : Int) + 1) = (M : Int) + 1 := by rw [IntKind.wrap_i64]; omega
          have z3 : IntKind.i64.wrap ((p1.length : Int) + ((M : Int) + 1)) = (p1.length : Int) + ((M : Int) + 1) := by rw [IntKind.wrap_i64]; omega
          have z4 : ((p2.length : Int) == (p1.length : Int) + ((M : Int) + 1)) = true := by rw [beq_iff_eq]; omega
          clear g1 g2 h127
          go_wp2_with (fail)
          refine (HW.out).mono ?_
          rintro e w7 ⟨rfl, hb7⟩
          have HB7 := Lib.hid (HB6.out.trans (hb7.mono HB6.out.size))
          clear hb7 HW
          go_wp2
          go_ret
          exact ⟨rfl, HB7.out⟩
        · rw [if_neg h127] at g2
          have z1 : ¬ (127 : Int) < (M : Int) + 1 := by omega
          have z3 : IntKind.i64.wrap ((p1.length : Int) + (M : Int)) = (p1.length : Int) + (M : Int) := by rw [IntKind.wrap_i64]; omega
          have z4 : ((p2.length : Int) == (p1.length : Int) + (M : Int)) = true := by rw [beq_iff_eq]; omega
          clear g1 g2 h127
          go_wp2_with (fail)
          refine (HW.out).mono ?_
          rintro e w7 ⟨rfl, hb7⟩
          have HB7 := Lib.hid (HB6.out.trans (hb7.mono HB6.out.size))
          clear hb7 HW
          go_wp2
          go_ret
          exact ⟨rfl, HB7.out⟩

/-! ### From the walk to the row -/
set_option maxRecDepth 100000 in
theorem lifted (os : Os) (started : os.Started) (H : Type) (enc : TypeId × Value → H) :
    ReturnsInHanded {} Try.checked os 9 .any (Rows.packSmallSpec.pre6 enc Try.prog Try.f9 Rows.packSmallRow.domain false) (Rows.packSmallSpec.post enc Try.prog Try.f9 false true false false) := by
  refine returnsInHanded_of_change (C := Try.checked) own started (by kernel_rfl) Try.func9
    (ChangeSpec.witness6 (enc := enc) (C := Try.checked) false ⟨#[], #[.slice none 0 0, .int .u16 0, .int .u16 0], []⟩ 8 (by kernel_rfl) (by kernel_rfl) (by kernel_rfl) (by kernel_rfl)) ?_
  intro W base args ds gs before hval0 hW hcnd _
  have hval : ∀ (j : Nat) t v, Try.f9.params[j]? = some t → args[j]? = some v → Value.okWide Try.prog W .any base t v := hval0
  have hW' := hW
  obtain ⟨p, q, hA0, hV, rfl, hfz, hnd⟩ := hW
  have hA : DataW.TrodAll enc Try.prog W 0 (fun _ => true) true Try.f9.params.toList args.toList ds p := hA0
  rw [Try.params9] at hA hval
  obtain ⟨v0, vs0, d0, ds0, p0, q0, hargs, rfl, rfl, h0, r0⟩ := trodAll_cons hA
  obtain ⟨v1, vs1, d1, ds1, p1, q1, rfl, rfl, rfl, h1, r1⟩ := trodAll_cons r0
  obtain ⟨v2, vs2, d2, ds2, p2, q2, rfl, rfl, rfl, h2, r2⟩ := trodAll_cons r1
  obtain ⟨rfl, rfl, rfl⟩ := trodAll_nil r2
  obtain rfl : args = #[v0, v1, v2] := by cases args; simp_all
  obtain ⟨rfl, rfl⟩ := trodVars_none hV
  obtain ⟨a0, len0, cap0, rfl⟩ := okWide_slice Try.underlying27 (hval 0 27 v0 rfl rfl)
  have k0 := h0
  have lt0 : ∀ x ∈ p0, x.block < W.heap.size := by obtain ⟨m, hm⟩ := k0; exact DataW.trod_lt m _ _ _ hm
  obtain ⟨l0, len_0, hb0⟩ : ∃ l : List Int, l.length = len0 ∧ Lv iK W W.heap.size (.slice a0 len0 cap0) l := by
    obtain ⟨fuel, hf⟩ := h0
    rcases open_ints Try.underlying27 Try.underlying3 (by kernel_rfl) hf with ⟨hcs, _⟩ | ⟨x, l, c, zs, hcs, _, hl, hm, hz, _, hcell, hwz⟩
    · simp [Value.cells] at hcs
      obtain ⟨rfl, rfl, rfl⟩ := hcs
      exact ints_in (.inl ⟨rfl, rfl, rfl⟩)
    · simp [Value.cells] at hcs
      obtain ⟨rfl, rfl, rfl⟩ := hcs
      exact ints_in (.inr ⟨x, zs, rfl, hl, hm, by simpa using hz, hcell, hwz⟩)
  obtain ⟨a1, rfl, rfl, rfl, w1⟩ := open_int Try.underlying47 (hval 1 47 v1 rfl rfl) h1
  obtain ⟨n1, e1, b1⟩ := u16_nat w1
  subst e1
  obtain ⟨a2, rfl, rfl, rfl, w2⟩ := open_int Try.underlying47 (hval 2 47 v2 rfl rfl) h2
  obtain ⟨n2, e2, b2⟩ := u16_nat w2
  subst e2
  clear hA0 hval0
  refine (walk W (.slice a0 len0 cap0) l0 hb0 n1 b1 n2 b2).mono fun e W' ⟨he, bel⟩ => ?_
  subst he
  exact ⟨_, rfl, _, _, _, [], _, [], hW', trodAll_mk1 (shut_bool Try.underlying4 _), (trodAll_cons_mk (Below.trod laidOut (by kernel_rfl) (of_decide_eq_true (by kernel_rfl)) k0 bel lt0) (trodAll_cons_mk (shut_int Try.underlying47 w1) (trodAll_cons_mk (shut_int Try.underlying47 w2) trodAll_mk0))), rfl, bel.frame _, fun h => by cases h⟩

theorem proved : Rows.PackSmallSaid :=
  OpenClaim.holds_of_wide 9 Try.f9 rfl rfl rfl rfl rfl rfl rfl ⟨rfl, rfl, rfl, rfl, rfl⟩ rfl rfl rfl rfl rfl (by kernel_rfl) Try.func9 (by kernel_rfl)
    (of_decide_eq_true (by kernel_rfl)) (by unfold Func.isWrapper; first | (rw [if_pos (by decide +kernel)]; kernel_rfl) | (rw [if_neg (by decide +kernel)]; exact ⟨rfl, rfl⟩))
    (fun os started H enc _ => lifted os started H enc)

end Go.Proofs.Ytapedjcchcgoeaa.packSmall
