/-
  FrameBurst: for every payload, every place and every number: a frame in which up to four bytes that stand side by side, behind its first number, are changed is refused by its sum. No condition.
-/
import Derived.Test.YteemhdoegjdaiaaFrame
import Derived.Test.YteemhdoegjdaiaaCFrame
import Derived.Test.YteemhdoegjdaiaaFWorks
import Derived.Test.YteemhdoegjdaiaaFRows
import Derived.Test.YteemhdoegjdaiaaFMathC
import Derived.Test.YteemhdoegjdaiaaSet
namespace Go.Proofs.Yteemhdoegjdaiaa.frameBurst
open Go.ChangeShapes Go.WideShapes Go.ChangeAt Go.RowKit
open Go.ChangeMaps (open_string shut_string)
set_option linter.unusedVariables false

theorem byt_bits (n k : Nat) : (n : Int) / 2 ^ (8 * k) % 256 = ((Cr.byt n k : Nat) : Int) := by
  unfold Cr.byt
  simp

set_option maxHeartbeats 1000000 in
set_option maxRecDepth 100000 in
theorem walkLong (w : World) (v0 : Value) (l0 : List Nat) (h0 : Bv w w.heap.size v0 l0) (a1 : Int) (n2 : Nat) (hl : 65536 < l0.length) :
    Calls Try.prog 7 #[v0, .int .i64 a1, .int .u32 n2] w (IsBool true w) := by
  have HC := fput_any v0 l0 _ w (Nat.le_refl _) h0
  rw [Fr.put_out hl] at HC
  have HP := Lib.hid HC
  obtain ⟨A, c, rfl, _, hc2, _, _⟩ := h0
  unfold maxLen at hc2
  have hlen : (65536 : Int) < ((l0.length : Nat) : Int) := by omega
  clear HC
  go_enter Try.func7, Try.ntmps7
  go_wp2_with fail
  ((with_reducible refine HP.out.mono ?_); rintro e w1 ⟨A1, rfl, _, hb1⟩)
  have HW := Lib.hid (works_any w1)
  clear HP
  go_wp2_with fail
  ((with_reducible refine HW.out.mono ?_); rintro e w2 ⟨rfl, hb⟩)
  go_wp2
  go_ret
  exact ⟨rfl, hb1.trans (hb.mono hb1.size)⟩

set_option maxHeartbeats 2000000 in
set_option maxRecDepth 100000 in
theorem walkOutside (w : World) (v0 : Value) (l0 : List Nat) (h0 : Bv w w.heap.size v0 l0) (a1 : Int) (n2 : Nat) (hl : l0.length ≤ 65536) (ho : a1 < (Mt.put l0.length).length ∨ ((Fr.frm l0).length : Int) ≤ a1) :
    Calls Try.prog 7 #[v0, .int .i64 a1, .int .u32 n2] w (IsBool true w) := by
  have HC := fput_any v0 l0 _ w (Nat.le_refl _) h0
  rw [Fr.put_in hl] at HC
  have hfl := Fr.frm_len2 l0
  have hp10 := Mt.put_len_le l0.length
  have HR : Hid (∀ w, Calls Try.prog 24 #[.int .u64 (l0.length : Nat)] w (IsFresh (Mt.put l0.length) w)) := fun w => rput_any 9 l0.length w (by omega) (by unfold Mt.B64; omega)
  have HWr := Lib.hid (wrap_small l0.length hl)
  obtain ⟨F, hF⟩ : ∃ F, Fr.frm l0 = F := ⟨_, rfl⟩
  rw [hF] at HC hfl ho
  have HP := Lib.hid HC
  obtain ⟨A, c, rfl, _, hc2, _, _⟩ := h0
  obtain ⟨P, hPe⟩ : ∃ P, Mt.put l0.length = P := ⟨_, rfl⟩
  rw [hPe] at HR hfl hp10 ho
  clear HC hF hPe
  have hF6 : F.length ≤ 65550 := by omega
  clear hfl
  have ho' : a1 < (P.length : Nat) ∨ ¬ a1 < (P.length : Nat) ∧ ((F.length : Nat) : Int) ≤ a1 := by omega
  clear ho
  rcases ho' with ho | ⟨ho, ho2⟩
  all_goals
    go_enter Try.func7, Try.ntmps7
    go_wp2_with fail
    ((with_reducible refine HP.out.mono ?_); rintro e w1 ⟨A1, rfl, _, hb1⟩)
    have HB1 := Lib.hid hb1
    clear hb1
    go_wp2_with fail
    try rw [HWr.out]
    ((with_reducible refine (HR.out _).mono ?_); rintro e w2 ⟨A2, c2, rfl, _, hb2⟩)
    have HB2 := Lib.hid (HB1.out.trans (hb2.mono HB1.out.size))
    have HW := Lib.hid (works_any w2)
    clear hb2 HB1
    go_wp2_with fail
    ((with_reducible refine HW.out.mono ?_); rintro e w3 ⟨rfl, hb3⟩)
    go_wp2
    go_ret
    exact ⟨rfl, HB2.out.trans (hb3.mono HB2.out.size)⟩

set_option maxHeartbeats 4000000 in
set_option maxRecDepth 100000 in
theorem walkInside (w : World) (v0 : Value) (l0 : List Nat) (h0 : Bv w w.heap.size v0 l0) (p n2 : Nat) (b2 : Cr.B32 n2) (hl : l0.length ≤ 65536) (h1 : (Mt.put l0.length).length ≤ p) (hp : p < (Fr.frm l0).length) :
    Calls Try.prog 7 #[v0, .int .i64 p, .int .u32 n2] w (IsBool true w) := by
  have HC := fput_any v0 l0 _ w (Nat.le_refl _) h0
  rw [Fr.put_in hl] at HC
  have hfl := Fr.frm_len2 l0
  have hp10 := Mt.put_len_le l0.length
  have HR : Hid (∀ w, Calls Try.prog 24 #[.int .u64 (l0.length : Nat)] w (IsFresh (Mt.put l0.length) w)) := fun w => rput_any 9 l0.length w (by omega) (by unfold Mt.B64; omega)
  have HWr := Lib.hid (wrap_small l0.length hl)
  have HF8 := Lib.hid (Fr.frm_lt h0.lt_ (show Mt.B64 l0.length by unfold Mt.B64; omega))
  have HTG : Hid (∀ k, p + k ≤ (Fr.frm l0).length → k ≤ 4 → Fr.get (Cr.turnd (Fr.frm l0) p n2 k) 0 = if Cr.zer n2 k = true then (l0, (Fr.frm l0).length, 0) else ([], 0, 6)) := fun k hk h4 => Fr.turned_get h0.lt_ hl h1 hk h4
  have H0 := Lib.hid h0
  obtain ⟨F, hF⟩ : ∃ F, Fr.frm l0 = F := ⟨_, rfl⟩
  rw [hF] at HC hfl hp HF8 HTG
  have HP := Lib.hid HC
  obtain ⟨A, c, rfl, _, hc2, _, _⟩ := h0
  obtain ⟨P, hPe⟩ : ∃ P, Mt.put l0.length = P := ⟨_, rfl⟩
  rw [hPe] at HR hfl hp10 h1
  clear HC hF hPe
  have hF6 : F.length ≤ 65550 := by omega
  have i1 : ¬ ((p : Int) < (P.length : Nat)) := by omega
  have i2 : (p : Int) < (F.length : Nat) := by omega
  have hn : n2 < 4294967296 := b2
  clear hfl
  go_enter Try.func7, Try.ntmps7
  go_wp2_with fail
  ((with_reducible refine HP.out.mono ?_); rintro e w1 ⟨A1, rfl, ho1, hb1⟩)
  have HO1 := Lib.hid ho1
  have HB1 := Lib.hid hb1
  clear hb1 ho1 HP
  go_wp2_with fail
  try rw [HWr.out]
  ((with_reducible refine (HR.out _).mono ?_); rintro e w2 ⟨A2, c2, rfl, _, hb2⟩)
  have HB2 := Lib.hid (HB1.out.trans (hb2.mono HB1.out.size))
  have HO2 := Lib.hid (HO1.out.below_ hb2 (Nat.le_refl _))
  clear hb2 HB1 HO1
  go_wp2
  go_loopw [10, 11] (fun s i wr => ∃ k : Nat, k ≤ 4 ∧ p + k ≤ F.length ∧ s = .bool (Cr.zer n2 k) ∧ i = .int .i64 k ∧ Hid (OwnB wr w.heap.size (.slice A1 F.length F.length) (Cr.turnd F p n2 k)) ∧ Below w.heap.size w wr) (fun _ i _ => 4 - (intOf i).toNat)
  case atStart => exact ⟨0, by omega, by omega, rfl, rfl, HO2.out, HB2.out⟩
  case round =>
    obtain ⟨k, hk, hpk, rfl, rfl, HO, hbr⟩ := hrel
    have hlen := Cr.turnd_len F p n2 k
    clear HO2 HB2
    obtain ⟨z, hz⟩ : ∃ z, Cr.zer n2 k = z := ⟨_, rfl⟩
    have HZ := Lib.hid hz
    rw [hz]
    by_cases hlt : k < 4 ∧ p + k < F.length
    · obtain ⟨hk4, hpl⟩ := hlt
      obtain ⟨g, y, rfl, hbg, hy, hy8, hcell, hfr⟩ := HO.out.at_ (k := p + k) (by omega)
      have hx := byt_bits n2 k
      have hx8 := Cr.byt_lt n2 k
      have HN := Lib.hid (Cr.turnd_succ F p n2 k)
      have HZ2 := Lib.hid (Cr.zer_succ n2 k)
      have hset : OwnB wr w.heap.size (.slice (some ⟨g, 0, none⟩) (Cr.turnd F p n2 k).length F.length) (Cr.turnd F p n2 k) := by rw [hlen]; exact HO.out
      have hset2 := hset.set_ (p + k) (Cr.xor_byte_lt hy8 hx8)
      rw [List.length_set, hlen] at hset2
      have hxor := xor_u8_nat y (Cr.byt n2 k) hy8 hx8
      rw [hy] at HN
      rw [hz] at HZ2
      obtain ⟨x, hxe⟩ : ∃ x, Cr.byt n2 k = x := ⟨_, rfl⟩
      rw [hxe] at hx hx8 HN HZ2 hset2 hxor
      have HO2 := Lib.hid hset2.1
      have HB2 := Lib.hid (hbr.grown hset2.2 hbr.size (by intro j hj; cases hj; exact hbg))
      have d1 : decide ((k : Int) < 4) = true := by simp; omega
      have d2 : decide ((p : Int) + (k : Int) < ((F.length : Nat) : Int)) = true := by simp; omega
      clear hset hset2 hlen hy hz hxe HZ HR
      rw [← HN.out] at HO2
      cases z
      · go_wp2
        refine ⟨⟨k + 1, by omega, by omega, by rw [HZ2.out]; rfl, by go_num, ?_, ?_⟩, by simp [intOf]; omega⟩
        · exact HO2.out
        · exact HB2.out
      · by_cases hx0 : x = 0
        · have hq : ((x : Int) == 0) = true := by rw [beq_iff_eq]; omega
          have hq2 : (x == 0) = true := by rw [beq_iff_eq]; exact hx0
          clear hx0
          go_wp2
          refine ⟨⟨k + 1, by omega, by omega, by rw [HZ2.out, hq2]; simp, by go_num, ?_, ?_⟩, by simp [intOf]; omega⟩
          · exact HO2.out
          · exact HB2.out
        · have hq : ((x : Int) == 0) = false := by rw [beq_eq_false_iff_ne]; omega
          have hq2 : (x == 0) = false := by rw [beq_eq_false_iff_ne]; exact hx0
          go_wp2
          refine ⟨⟨k + 1, by omega, by omega, by rw [HZ2.out, hq2]; simp, by go_num, ?_, ?_⟩, by simp [intOf]; omega⟩
          · exact HO2.out
          · exact HB2.out
    · have ho := HO.out
      rw [← hlen] at ho
      have HG := fget_any _ (Cr.turnd F p n2 k) _ 0 wr (Nat.le_refl _) ho.form_ (by rw [hlen]; omega)
      rw [HTG.out k hpk hk, hz, hlen] at HG
      have HGc := Lib.hid HG
      have HB2 := Lib.hid hbr
      have H2 := Lib.hid (H0.out.below_ hbr (Nat.le_refl _))
      have hd : (k : Int) < 4 ∧ ¬ ((p : Int) + (k : Int) < ((F.length : Nat) : Int)) ∨ ¬ ((k : Int) < 4) := by omega
      clear HG ho HO hlen hz HZ HR HTG HF8 hlt
      cases z
      · simp only [Bool.false_eq_true, if_false] at HGc
        rcases hd with ⟨d1, d2⟩ | d1
        all_goals
          go_wp2_with fail
          ((with_reducible refine HGc.out.mono ?_); rintro e w3 ⟨A3, rfl, _, hb3⟩)
          have HB3 := Lib.hid (HB2.out.trans (hb3.mono HB2.out.size))
          have HW := Lib.hid (works_any w3)
          clear hb3
          go_wp2_with fail
          ((with_reducible refine HW.out.mono ?_); rintro e w4 ⟨rfl, hb4⟩)
          go_wp2
          go_ret
          exact ⟨rfl, HB3.out.trans (hb4.mono HB3.out.size)⟩
      · simp only [if_true] at HGc
        rcases hd with ⟨d1, d2⟩ | d1
        all_goals
          go_wp2_with fail
          ((with_reducible refine HGc.out.mono ?_); rintro e w3 ⟨A3, rfl, ho3, hb3⟩)
          have HB3 := Lib.hid (HB2.out.trans (hb3.mono HB2.out.size))
          have HS := Lib.hid (same_bv _ _ _ _ _ _ w3 (H2.out.below_ hb3 HB2.out.size) ho3.form_)
          clear hb3 ho3
          go_wp2_with fail
          ((with_reducible refine HS.out.mono ?_); rintro e w4 ⟨he, hb4⟩)
          simp only [decide_true] at he
          subst he
          have HB4 := Lib.hid (HB3.out.trans (hb4.mono HB3.out.size))
          have HW := Lib.hid (works_any w4)
          clear hb4
          go_wp2_with fail
          ((with_reducible refine HW.out.mono ?_); rintro e w5 ⟨rfl, hb5⟩)
          go_wp2
          go_ret
          exact ⟨rfl, HB4.out.trans (hb5.mono HB4.out.size)⟩

set_option maxHeartbeats 400000 in
theorem walk (w : World) (v0 : Value) (l0 : List Nat) (h0 : Bv w w.heap.size v0 l0) (a1 : Int) (w1 : (Lit.int .i64 a1).wf = true) (n2 : Nat) (b2 : Cr.B32 n2) :
    Calls Try.prog 7 #[v0, .int .i64 a1, .int .u32 n2] w (IsBool true w) := by
  by_cases hl : 65536 < l0.length
  · exact walkLong w v0 l0 h0 a1 n2 hl
  · by_cases ho : a1 < (Mt.put l0.length).length ∨ ((Fr.frm l0).length : Int) ≤ a1
    · exact walkOutside w v0 l0 h0 a1 n2 (by omega) ho
    · obtain ⟨p, rfl⟩ := Int.eq_ofNat_of_zero_le (a := a1) (by omega)
      exact walkInside w v0 l0 h0 p n2 b2 (by omega) (by omega) (by omega)

/-! ### From the walk to the row -/
set_option maxRecDepth 100000 in
theorem lifted (os : Os) (started : os.Started) (H : Type) (enc : TypeId × Value → H) :
    ReturnsInHanded {} Try.checked os 7 .any (Rows.frameBurstSpec.pre6 enc Try.prog Try.f7 Rows.frameBurstRow.domain false) (Rows.frameBurstSpec.post enc Try.prog Try.f7 false true false false) := by
  refine returnsInHanded_of_change (C := Try.checked) own started (by kernel_rfl) Try.func7
    (ChangeSpec.witness6 (enc := enc) (C := Try.checked) false ⟨#[], #[.slice none 0 0, .int .i64 0, .int .u32 0], []⟩ 8 (by kernel_rfl) (by kernel_rfl) (by kernel_rfl) (by kernel_rfl)) ?_
  intro W base args ds gs before hval0 hW hcnd _
  have hval : ∀ (j : Nat) t v, Try.f7.params[j]? = some t → args[j]? = some v → Value.okWide Try.prog W .any base t v := hval0
  have hW' := hW
  obtain ⟨p, q, hA0, hV, rfl, hfz, hnd⟩ := hW
  have hA : DataW.TrodAll enc Try.prog W 0 (fun _ => true) true Try.f7.params.toList args.toList ds p := hA0
  rw [Try.params7] at hA hval
  obtain ⟨v0, vs0, d0, ds0, p0, q0, hargs, rfl, rfl, h0, r0⟩ := trodAll_cons hA
  obtain ⟨v1, vs1, d1, ds1, p1, q1, rfl, rfl, rfl, h1, r1⟩ := trodAll_cons r0
  obtain ⟨v2, vs2, d2, ds2, p2, q2, rfl, rfl, rfl, h2, r2⟩ := trodAll_cons r1
  obtain ⟨rfl, rfl, rfl⟩ := trodAll_nil r2
  obtain rfl : args = #[v0, v1, v2] := by cases args; simp_all
  obtain ⟨rfl, rfl⟩ := trodVars_none hV
  obtain ⟨a0, len0, cap0, rfl⟩ := okWide_slice Try.underlying22 (hval 0 22 v0 rfl rfl)
  have k0 := h0
  have lt0 : ∀ x ∈ p0, x.block < W.heap.size := by obtain ⟨m, hm⟩ := k0; exact DataW.trod_lt m _ _ _ hm
  obtain ⟨l0, len_0, hb0⟩ : ∃ l : List Nat, l.length = len0 ∧ Bv W W.heap.size (.slice a0 len0 cap0) l := by
    obtain ⟨fuel, hf⟩ := h0
    rcases open_ints Try.underlying22 Try.underlying5 (by kernel_rfl) hf with ⟨hcs, _⟩ | ⟨x, l, c, zs, hcs, _, hl, hm, hz, _, hcell, hwz⟩
    · simp [Value.cells] at hcs
      obtain ⟨rfl, rfl, rfl⟩ := hcs
      exact bytes_in (.inl ⟨rfl, rfl, rfl⟩)
    · simp [Value.cells] at hcs
      obtain ⟨rfl, rfl, rfl⟩ := hcs
      exact bytes_in (.inr ⟨x, zs, rfl, hl, hm, by simpa using hz, hcell, hwz⟩)
  obtain ⟨a1, rfl, rfl, rfl, w1⟩ := open_int Try.underlying3 (hval 1 3 v1 rfl rfl) h1
  obtain ⟨a2, rfl, rfl, rfl, w2⟩ := open_int Try.underlying42 (hval 2 42 v2 rfl rfl) h2
  obtain ⟨n2, e2, b2⟩ := u32_nat w2
  subst e2
  clear hA0 hval0
  refine (walk W (.slice a0 len0 cap0) l0 hb0 a1 w1 n2 b2).mono fun e W' ⟨he, bel⟩ => ?_
  subst he
  exact ⟨_, rfl, _, _, _, [], _, [], hW', trodAll_mk1 (shut_bool Try.underlying4 _), (trodAll_cons_mk (Below.trod laidOut (by kernel_rfl) (of_decide_eq_true (by kernel_rfl)) k0 bel lt0) (trodAll_cons_mk (shut_int Try.underlying3 w1) (trodAll_cons_mk (shut_int Try.underlying42 w2) trodAll_mk0))), rfl, bel.frame _, fun h => by cases h⟩

theorem proved : Rows.FrameBurstSaid :=
  OpenClaim.holds_of_wide 7 Try.f7 rfl rfl rfl rfl rfl rfl rfl ⟨rfl, rfl, rfl, rfl, rfl⟩ rfl rfl rfl rfl rfl (by kernel_rfl) Try.func7 (by kernel_rfl)
    (of_decide_eq_true (by kernel_rfl)) (by unfold Func.isWrapper; first | (rw [if_pos (by decide +kernel)]; kernel_rfl) | (rw [if_neg (by decide +kernel)]; exact ⟨rfl, rfl⟩))
    (fun os started H enc _ => lifted os started H enc)

end Go.Proofs.Yteemhdoegjdaiaa.frameBurst
