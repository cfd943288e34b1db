/-
  CrcBurst: for every bytes, every place and every number: bytes of which up to four that stand side by side are changed have another sum. No condition.
-/
import Derived.Test.YtgljncmegpamaaaCFrame
import Derived.Test.YtgljncmegpamaaaCWorks
import Derived.Test.YtgljncmegpamaaaCMathB
import Derived.Test.YtgljncmegpamaaaSet
import Derived.SizedLaws
namespace Go.Proofs.Ytgljncmegpamaaa.crcBurst
open Go.ChangeShapes Go.WideShapes Go.ChangeAt Go.RowKit
open Go.ChangeMaps (open_string shut_string)
set_option linter.unusedVariables false

theorem byt_bits (n k : Nat) : (n : Int) / 2 ^ (8 * k) % 256 = ((Cr.byt n k : Nat) : Int) := by
  unfold Cr.byt
  simp

set_option maxHeartbeats 1000000 in
set_option maxRecDepth 100000 in
theorem walkOutside (w : World) (v0 : Value) (l0 : List Nat) (h0 : Bv w w.heap.size v0 l0) (a1 : Int) (n2 : Nat) (hr : l0.length * 1 ≤ 140737488351232) (ho : a1 < 0 ∨ (l0.length : Int) ≤ a1) :
    Calls Try.prog 7 #[v0, .int .i64 a1, .int .u32 n2] w (IsBool true w) := by
  have HW := Lib.hid (works_any w)
  obtain ⟨A, c, rfl, _⟩ := h0
  rcases ho with ho | ho
  · go_enter Try.func7, Try.ntmps7
    go_wp2_with fail
    ((with_reducible refine HW.out.mono ?_); rintro e w2 ⟨rfl, hb⟩)
    go_wp2
    go_ret
    exact ⟨rfl, hb⟩
  · go_enter Try.func7, Try.ntmps7
    go_wp2_with fail
    ((with_reducible refine HW.out.mono ?_); rintro e w2 ⟨rfl, hb⟩)
    go_wp2
    go_ret
    exact ⟨rfl, hb⟩

set_option maxHeartbeats 2000000 in
set_option maxRecDepth 100000 in
theorem walkInside (w : World) (v0 : Value) (l0 : List Nat) (h0 : Bv w w.heap.size v0 l0) (p n2 : Nat) (b2 : Cr.B32 n2) (hr : l0.length * 1 ≤ 140737488351232) (hp : p < l0.length) :
    Calls Try.prog 7 #[v0, .int .i64 p, .int .u32 n2] w (IsBool true w) := by
  have H0 := Lib.hid h0
  have hn : n2 < 4294967296 := b2
  obtain ⟨A, c, rfl, _⟩ := h0
  have hnil := Lib.hid (OwnB.nil_ w w.heap.size)
  go_enter Try.func7, Try.ntmps7
  go_wp2_with (at_builtin; go_must (refine wpList_append_bytes _ rfl _ _ rfl rfl w.heap.size _ rfl [] hnil.out _ rfl _ l0 H0.out (by simp; omega) (Nat.le_refl _) ?_; intro A3 c3 w1 hA1))
  have ho1 := hA1.own
  have hb1 := (Below.refl w.heap.size w).grown hA1.grown (Nat.le_refl _) (by intro k hk; cases hk)
  simp only [List.nil_append] at ho1
  have HO1 := Lib.hid ho1
  have HB1 := Lib.hid hb1
  have hz1 := hb1.size
  clear hA1 hnil ho1 hb1
  go_loopw [8, 9] (fun s i wr => ∃ k : Nat, k ≤ 4 ∧ p + k ≤ l0.length ∧ s = .bool (Cr.zer n2 k) ∧ i = .int .i64 k ∧ Hid (OwnB wr w.heap.size (.slice A3 l0.length c3) (Cr.turnd l0 p n2 k)) ∧ Below w.heap.size w wr) (fun _ i _ => 4 - (intOf i).toNat)
  case atStart => exact ⟨0, by omega, by omega, rfl, rfl, HO1.out, HB1.out⟩
  case round =>
    obtain ⟨k, hk, hpk, rfl, rfl, HO, hbr⟩ := hrel
    have hlen := Cr.turnd_len l0 p n2 k
    have hlt256 := Cr.turnd_lt H0.out.lt_ p n2 k
    have HT := Lib.hid (Cr.of_turnd (n := n2) H0.out.lt_ hpk hk)
    obtain ⟨z, hz⟩ : ∃ z, Cr.zer n2 k = z := ⟨_, rfl⟩
    have HZ := Lib.hid hz
    rw [hz] at HT ⊢
    by_cases hlt : k < 4 ∧ p + k < l0.length
    · obtain ⟨hk4, hpl⟩ := hlt
      obtain ⟨g, y, rfl, hbg, hy, hy8, hcell, hfr⟩ := HO.out.at_ (k := p + k) (by omega)
      have hx := byt_bits n2 k
      have hx8 := Cr.byt_lt n2 k
      have HN := Lib.hid (Cr.turnd_succ l0 p n2 k)
      have HZ2 := Lib.hid (Cr.zer_succ n2 k)
      have hset : OwnB wr w.heap.size (.slice (some ⟨g, 0, none⟩) (Cr.turnd l0 p n2 k).length c3) (Cr.turnd l0 p n2 k) := by rw [hlen]; exact HO.out
      have hset2 := hset.set_ (p + k) (Cr.xor_byte_lt hy8 hx8)
      rw [List.length_set, hlen] at hset2
      have hxor := xor_u8_nat y (Cr.byt n2 k) hy8 hx8
      rw [hy] at HN
      rw [hz] at HZ2
      obtain ⟨x, hxe⟩ : ∃ x, Cr.byt n2 k = x := ⟨_, rfl⟩
      rw [hxe] at hx hx8 HN HZ2 hset2 hxor
      have HO2 := Lib.hid hset2.1
      have HB2 := Lib.hid (hbr.grown hset2.2 hbr.size (by intro j hj; cases hj; exact hbg))
      have d1 : decide ((k : Int) < 4) = true := by simp; omega
      have d2 : decide ((p : Int) + (k : Int) < ((l0.length : Nat) : Int)) = true := by simp; omega
      clear HB1 hz1 HO1 hset hset2 hlen hy hz hxe HZ HT hlt256
      rw [← HN.out] at HO2
      cases z
      · go_wp2
        refine ⟨⟨k + 1, by omega, by omega, by rw [HZ2.out]; rfl, by go_num, ?_, ?_⟩, by simp [intOf]; omega⟩
        · exact HO2.out
        · exact HB2.out
      · by_cases hx0 : x = 0
        · have hq : ((x : Int) == 0) = true := by rw [beq_iff_eq]; omega
          have hq2 : (x == 0) = true := by rw [beq_iff_eq]; exact hx0
          clear hx0
          go_wp2
          refine ⟨⟨k + 1, by omega, by omega, by rw [HZ2.out, hq2]; simp, by go_num, ?_, ?_⟩, by simp [intOf]; omega⟩
          · exact HO2.out
          · exact HB2.out
        · have hq : ((x : Int) == 0) = false := by rw [beq_eq_false_iff_ne]; omega
          have hq2 : (x == 0) = false := by rw [beq_eq_false_iff_ne]; exact hx0
          go_wp2
          refine ⟨⟨k + 1, by omega, by omega, by rw [HZ2.out, hq2]; simp, by go_num, ?_, ?_⟩, by simp [intOf]; omega⟩
          · exact HO2.out
          · exact HB2.out
    · have hq : (((Cr.of l0 : Nat) : Int) == ((Cr.of (Cr.turnd l0 p n2 k) : Nat) : Int)) = z := by
        cases z
        · rw [beq_eq_false_iff_ne]
          intro e
          have := HT.out.1 (by omega)
          cases this
        · rw [beq_iff_eq, HT.out.2 rfl]
      have HC1 := Lib.hid (of_any _ l0 _ wr (H0.out.below_ hbr (Nat.le_refl _)))
      have ho := HO.out.form_
      have HC2 := Lib.hid (of_any _ _ _ wr ho)
      have HW := Lib.hid (works_any wr)
      have HB2 := Lib.hid hbr
      obtain ⟨s1, e1⟩ : ∃ s, Cr.of l0 = s := ⟨_, rfl⟩
      obtain ⟨s2, e2⟩ : ∃ s, Cr.of (Cr.turnd l0 p n2 k) = s := ⟨_, rfl⟩
      rw [e1] at HC1 hq
      rw [e2] at HC2 hq
      clear HB1 hz1 HO1 hlen hz HZ HT hlt256 ho HO e1 e2
      by_cases h4 : k < 4
      · have d1 : decide ((k : Int) < 4) = true := by simp; omega
        have d2 : decide ((p : Int) + (k : Int) < ((l0.length : Nat) : Int)) = false := by simp; omega
        go_wp2_with fail
        ((with_reducible refine HC1.out.mono ?_); rintro e w' ⟨rfl, rfl⟩)
        go_wp2_with fail
        ((with_reducible refine HC2.out.mono ?_); rintro e w' ⟨rfl, rfl⟩)
        cases z
        all_goals
          go_wp2_with fail
          ((with_reducible refine HW.out.mono ?_); rintro e w2 ⟨rfl, hb⟩)
          go_wp2
          go_ret
          exact ⟨rfl, HB2.out.trans (hb.mono HB2.out.size)⟩
      · have d1 : decide ((k : Int) < 4) = false := by simp; omega
        go_wp2_with fail
        ((with_reducible refine HC1.out.mono ?_); rintro e w' ⟨rfl, rfl⟩)
        go_wp2_with fail
        ((with_reducible refine HC2.out.mono ?_); rintro e w' ⟨rfl, rfl⟩)
        cases z
        all_goals
          go_wp2_with fail
          ((with_reducible refine HW.out.mono ?_); rintro e w2 ⟨rfl, hb⟩)
          go_wp2
          go_ret
          exact ⟨rfl, HB2.out.trans (hb.mono HB2.out.size)⟩

set_option maxHeartbeats 400000 in
theorem walk (w : World) (v0 : Value) (l0 : List Nat) (h0 : Bv w w.heap.size v0 l0) (a1 : Int) (w1 : (Lit.int .i64 a1).wf = true) (n2 : Nat) (b2 : Cr.B32 n2) (hr : l0.length * 1 ≤ 140737488351232) :
    Calls Try.prog 7 #[v0, .int .i64 a1, .int .u32 n2] w (IsBool true w) := by
  by_cases ho : a1 < 0 ∨ (l0.length : Int) ≤ a1
  · exact walkOutside w v0 l0 h0 a1 n2 hr ho
  · obtain ⟨p, rfl⟩ := Int.eq_ofNat_of_zero_le (a := a1) (by omega)
    exact walkInside w v0 l0 h0 p n2 b2 hr (by omega)

/-! ### From the walk to the row -/
set_option maxRecDepth 100000 in
theorem lifted (os : Os) (started : os.Started) (H : Type) (enc : TypeId × Value → H) :
    ReturnsInHanded {} Try.checked os 7 .any (Rows.crcBurstSpec.pre6 enc Try.prog Try.f7 Rows.crcBurstRow.domain false) (Rows.crcBurstSpec.post enc Try.prog Try.f7 false true false false) := by
  refine returnsInHanded_of_change_sized (C := Try.checked) own started (by kernel_rfl) Try.func7
    (ChangeSpec.witness6 (enc := enc) (C := Try.checked) false ⟨#[], #[.slice none 0 0, .int .i64 0, .int .u32 0], []⟩ 8 (by kernel_rfl) (by kernel_rfl) (by kernel_rfl) (by kernel_rfl)) ?_
  intro W base args ds gs before hval0 hW hcnd hreach _
  have hval : ∀ (j : Nat) t v, Try.f7.params[j]? = some t → args[j]? = some v → Value.okWide Try.prog W .any base t v := hval0
  have hW' := hW
  obtain ⟨p, q, hA0, hV, rfl, hfz, hnd⟩ := hW
  have hA : DataW.TrodAll enc Try.prog W 0 (fun _ => true) true Try.f7.params.toList args.toList ds p := hA0
  rw [Try.params7] at hA hval
  obtain ⟨v0, vs0, d0, ds0, p0, q0, hargs, rfl, rfl, h0, r0⟩ := trodAll_cons hA
  obtain ⟨v1, vs1, d1, ds1, p1, q1, rfl, rfl, rfl, h1, r1⟩ := trodAll_cons r0
  obtain ⟨v2, vs2, d2, ds2, p2, q2, rfl, rfl, rfl, h2, r2⟩ := trodAll_cons r1
  obtain ⟨rfl, rfl, rfl⟩ := trodAll_nil r2
  obtain rfl : args = #[v0, v1, v2] := by cases args; simp_all
  obtain ⟨rfl, rfl⟩ := trodVars_none hV
  obtain ⟨a0, len0, cap0, rfl⟩ := okWide_slice Try.underlying27 (hval 0 27 v0 rfl rfl)
  have k0 := h0
  have lt0 : ∀ x ∈ p0, x.block < W.heap.size := by obtain ⟨m, hm⟩ := k0; exact DataW.trod_lt m _ _ _ hm
  obtain ⟨l0, len_0, hb0⟩ : ∃ l : List Nat, l.length = len0 ∧ Bv W W.heap.size (.slice a0 len0 cap0) l := by
    obtain ⟨fuel, hf⟩ := h0
    rcases open_ints Try.underlying27 Try.underlying5 (by kernel_rfl) hf with ⟨hcs, _⟩ | ⟨x, l, c, zs, hcs, _, hl, hm, hz, _, hcell, hwz⟩
    · simp [Value.cells] at hcs
      obtain ⟨rfl, rfl, rfl⟩ := hcs
      exact bytes_in (.inl ⟨rfl, rfl, rfl⟩)
    · simp [Value.cells] at hcs
      obtain ⟨rfl, rfl, rfl⟩ := hcs
      exact bytes_in (.inr ⟨x, zs, rfl, hl, hm, by simpa using hz, hcell, hwz⟩)
  obtain ⟨a1, rfl, rfl, rfl, w1⟩ := open_int Try.underlying3 (hval 1 3 v1 rfl rfl) h1
  obtain ⟨a2, rfl, rfl, rfl, w2⟩ := open_int Try.underlying22 (hval 2 22 v2 rfl rfl) h2
  obtain ⟨n2, e2, b2⟩ := u32_nat w2
  subst e2
  have reach0 : len0 * 1 ≤ 140737488351232 := by
    obtain ⟨fuel, hf⟩ := k0
    rcases open_ints Try.underlying27 Try.underlying5 (by kernel_rfl) hf with ⟨hcs, _⟩ | ⟨x, l, c, zs, hcs, _, hl, hm, hz, hx, hcell, hwz⟩
    · simp [Value.cells] at hcs
      omega
    · simp [Value.cells] at hcs
      obtain ⟨rfl, rfl, rfl⟩ := hcs
      rw [Prod.mk.injEq] at hx
      have hs := sized_slice hreach (j := 0) (t := 27) (e := 5) (elems := lits .u8 (zs.take len0)) (spare := lits .u8 (zs.drop len0)) rfl (by rw [hx.1]; rfl) Try.underlying27
      have hb : Try.prog.bytesOf 5 = 1 := by kernel_rfl
      change _ * Try.prog.bytesOf 5 ≤ _ at hs
      rw [hb] at hs
      simp [lits, reachBytes] at hs hz
      omega
  clear hA0 hval0
  refine (walk W (.slice a0 len0 cap0) l0 hb0 a1 w1 n2 b2 (by rw [len_0]; exact reach0)).mono fun e W' ⟨he, bel⟩ => ?_
  subst he
  exact ⟨_, rfl, _, _, _, [], _, [], hW', trodAll_mk1 (shut_bool Try.underlying4 _), (trodAll_cons_mk (Below.trod laidOut (by kernel_rfl) (of_decide_eq_true (by kernel_rfl)) k0 bel lt0) (trodAll_cons_mk (shut_int Try.underlying3 w1) (trodAll_cons_mk (shut_int Try.underlying22 w2) trodAll_mk0))), rfl, bel.frame _, fun h => by cases h⟩

theorem proved : Rows.CrcBurstSaid :=
  OpenClaim.holds_of_wide 7 Try.f7 rfl rfl rfl rfl rfl rfl rfl ⟨rfl, rfl, rfl, rfl, rfl⟩ rfl rfl rfl rfl rfl (by kernel_rfl) Try.func7 (by kernel_rfl)
    (of_decide_eq_true (by kernel_rfl)) (by unfold Func.isWrapper; first | (rw [if_pos (by decide +kernel)]; kernel_rfl) | (rw [if_neg (by decide +kernel)]; exact ⟨rfl, rfl⟩))
    (fun os started H enc _ => lifted os started H enc)

end Go.Proofs.Ytgljncmegpamaaa.crcBurst
