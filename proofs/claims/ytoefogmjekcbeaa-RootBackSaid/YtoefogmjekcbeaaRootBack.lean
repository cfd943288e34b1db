/-
  RootBack: what is put is got; of a root and the next one, of which one is spoilt, the other one is picked, of both whole ones the next one. No condition.
-/
import Derived.Test.YtoefogmjekcbeaaPk24
import Derived.Test.YtoefogmjekcbeaaPk09
import Derived.Test.YtoefogmjekcbeaaPk28
import Derived.Test.YtoefogmjekcbeaaPk23
import Derived.Test.YtoefogmjekcbeaaPk27
import Derived.Test.YtoefogmjekcbeaaPk03
import Derived.Test.YtoefogmjekcbeaaPk25
import Derived.Test.YtoefogmjekcbeaaPk02
import Derived.Test.YtoefogmjekcbeaaPk29
import Derived.StillTailTactics
namespace Go.Proofs.Ytoefogmjekcbeaa.rootBack
open Go.ChangeShapes Go.WideShapes Go.ChangeAt Go.RowKit
open Go.ChangeMaps (open_string shut_string)
set_option linter.unusedVariables false

set_option maxHeartbeats 4000000 in
set_option maxRecDepth 100000 in
theorem walk (w : World) (r0 : Rt.Root) (f0 : Rt.Fit r0) (s0 : Rt.Root) (f1 : Rt.Fit s0) (a2 : Int) (u2 : (Lit.int .i64 a2).wf = true) (n3 : Nat) (b3 : n3 < 256) :
    Calls Try.prog 5 #[.agg (rtC r0), .agg (rtC s0), .int .i64 a2, .int .u8 (n3 : Nat)] w (IsBool true w) := by
  have hz7 := (zero_of_info (n := 7) rt_zero).1
  have HNS : Hid (none7.size = 7) := rfl
  have HN0 : Hid (rtC Rt.zero = none7) := rfl
  obtain ⟨N, hN⟩ : ∃ N, none7 = N := ⟨_, rfl⟩
  rw [hN] at hz7 HNS HN0
  have hn35 : N.size = 7 := HNS.out
  clear hN
  have hI2 := bounds_i64 u2
  have HF := Lib.hid f0
  have HN3 := Lib.hid b3
  have HSS : Hid (s0.seq < 18446744073709551616) := f1.seq
  obtain ⟨D, hD⟩ : ∃ D, rtC r0 = D := ⟨_, rfl⟩
  have vsD : (Try.prog.info? 24).map (·.size) = some D.size := by rw [← hD]; exact rt_size
  have voD : D.all (·.oneCell') = true := by rw [← hD]; exact rtC_one _
  have hND : N.size = D.size := by rw [HNS.out, ← hD]; rfl
  have HD0 : Hid (D[0]? = some (.int .u64 (r0.seq : Nat))) := by unfold Hid; rw [← hD]; rfl
  obtain ⟨S, hS⟩ : ∃ D, rtC s0 = D := ⟨_, rfl⟩
  have HS0 : Hid (S[0]? = some (.int .u64 (s0.seq : Nat))) := by unfold Hid; rw [← hS]; rfl
  obtain ⟨s1, hs1⟩ : ∃ s1, ({ s0 with seq := r0.seq + 1 } : Rt.Root) = s1 := ⟨_, rfl⟩
  have hq1 : s1.seq = r0.seq + 1 := by rw [← hs1]
  have HFS : Hid (r0.seq + 1 < 18446744073709551616 → Rt.Fit s1) := fun h => by
    rw [← hs1]
    obtain ⟨e1, e2, e3, e4, e5, e6, e7⟩ := f1
    exact ⟨h, e2, e3, e4, e5, e6, e7⟩
  obtain ⟨S1, hS1⟩ : ∃ D, rtC s1 = D := ⟨_, rfl⟩
  have vsS : (Try.prog.info? 24).map (·.size) = some S1.size := by rw [← hS1]; exact rt_size
  have voS : S1.all (·.oneCell') = true := by rw [← hS1]; exact rtC_one _
  have hDS : D.size = S1.size := by rw [← hD, ← hS1]; rfl
  have HSET : Hid (S.setIfInBounds 0 (.int .u64 ((r0.seq : Nat) + 1 : Int)) = S1) := by
    unfold Hid; rw [← hS, ← hS1, ← hs1]; rfl
  rw [hD, hS]
  have HDD := Lib.hid hD
  have HDS := Lib.hid hS1
  have hrr : ∀ w', (Op.equalIn 10000 24 (.agg D) (.agg D)).run Try.prog w' = .ok true w' := fun w' => by rw [← hD]; have := rt_equalIn r0 r0 w'; simpa using this
  have hss : ∀ w', (Op.equalIn 10000 24 (.agg S1) (.agg S1)).run Try.prog w' = .ok true w' := fun w' => by rw [← hS1]; have := rt_equalIn s1 s1 w'; simpa using this
  obtain ⟨W0, hW0⟩ : ∃ W, w.alloc (.cells D 24) = W := ⟨_, rfl⟩
  obtain ⟨hxa, hxb⟩ := bxt_new hW0
  obtain ⟨W, hW⟩ : ∃ W, W0.alloc (.cells S 24) = W := ⟨_, rfl⟩
  obtain ⟨hya, hyb⟩ := bxt_new hW
  have HG1 := Lib.hid hxb.size
  have HG2 := Lib.hid hya.1
  have HG3 := Lib.hid hxa.1
  have HB0 := Lib.hid (hxb.trans (hyb.mono hxb.size))
  have Fbr_0 := Lib.hid ((hxa.below_ hyb (Nat.le_refl _)).mono_ hyb.size)
  have Fbs_0 := Lib.hid hya
  obtain ⟨⟨P, E⟩, hx⟩ : ∃ r, Rt.putE r0 = r := ⟨_, rfl⟩
  obtain ⟨⟨Q, E2⟩, hy⟩ : ∃ r, Rt.putE s1 = r := ⟨_, rfl⟩
  clear u2 f0 f1 b3 hD hS hs1 hxa hxb hya hyb hS1
  have HX := Lib.hid hx
  have HY := Lib.hid hy
  by_cases hE : E = 0
  · skip
    subst hE
    obtain ⟨hpl, hmay⟩ := Rt.page_len hx
    have hgp := Rt.get_put hx
    have hmx := hmay.2.1
    obtain ⟨k, hk⟩ : ∃ k, r0.seq % 2 = k := ⟨_, rfl⟩
    have hk2 : k = 0 ∨ k = 1 := by omega
    have hk1 : s1.seq % 2 = 1 - k := by omega
    have HFS1 := Lib.hid (HFS.out (by omega))
    have HPL := Lib.hid hpl
    rw [hk] at hgp
    have HGP := Lib.hid hgp
    have HKK := Lib.hid hk
    have HK1 := Lib.hid hk1
    have hwr : IntKind.u64.wrap ((r0.seq : Nat) + 1 : Int) = ((r0.seq : Nat) + 1 : Int) := by rw [IntKind.wrap_u64]; omega
    have HBK : Hid (E2 = 0 → Rt.pk k P Q = (s1, 0) ∧ ∀ p y, p < 512 → y < 256 → (Q[p]? ≠ some y → Rt.pk k P (Q.set p y) = (r0, 0)) ∧ (P[p]? ≠ some y → Rt.pk k (P.set p y) Q = (s1, 0))) := fun h => by
      subst h
      have := Rt.back hx hy hq1
      rwa [hk] at this
    clear hpl hmay hgp hmx hk hk1 hx hq1 HFS
    go_enter Try.func5, Try.ntmps5
    have Mp_0 := Lib.hid (Below.refl W.heap.size W)
    have C1 := Lib.hid (prtput_any r0 W HF.out)
    rw [HDD.out, HX.out] at C1
    go_wp2_with (first
      | (refine wpList_load_row rfl _ _ rfl w.heap.size rfl 24 D (0, 0) _ Fbr_0.out.2 Try.underlying24 rfl (by rw [vsD]) ?_))
    refine (C1.out).mono ?_
    rintro e w1 ⟨A1, c1, rfl, o1, b1⟩
    have HB1 := Lib.hid (HB0.out.trans (b1.mono HB0.out.size))
    have Fbr_1 := Lib.hid ((Fbr_0.out.below_ b1 (Nat.le_refl _)).mono_ b1.size)
    have Fbs_1 := Lib.hid ((Fbs_0.out.below_ b1 (Nat.le_refl _)).mono_ b1.size)
    have Mp_1 := Lib.hid (Mp_0.out.trans (b1.mono Mp_0.out.size))
    have Fp_1 := Lib.hid (o1.form_)
    have Op_1 := Lib.hid o1
    clear C1 b1 HB0 Fbr_0 Fbs_0 Mp_0 o1
    rw [HPL.out] at Op_1 Fp_1 ⊢
    have C2 := Lib.hid (prtplace_any r0 w1 HF.out)
    rw [HDD.out, HKK.out] at C2
    go_wp2_with (first
      | (refine wpList_load_row rfl _ _ rfl w.heap.size rfl 24 D (0, 0) _ Fbr_1.out.2 Try.underlying24 rfl (by rw [vsD]) ?_))
    refine (C2.out).mono ?_
    rintro e w2 ⟨rfl, b2⟩
    have HB2 := Lib.hid (HB1.out.trans (b2.mono HB1.out.size))
    have Fbr_2 := Lib.hid ((Fbr_1.out.below_ b2 (Nat.le_refl _)).mono_ b2.size)
    have Fbs_2 := Lib.hid ((Fbs_1.out.below_ b2 (Nat.le_refl _)).mono_ b2.size)
    have Fp_2 := Lib.hid ((Fp_1.out.below_ b2 (Nat.le_refl _)).mono_ b2.size)
    have Op_2 := Lib.hid (Op_1.out.below_ b2 (Nat.le_refl _))
    have Mp_2 := Lib.hid (Mp_1.out.trans (b2.mono Mp_1.out.size))
    clear C2 b2 HB1 Fbr_1 Fbs_1 Fp_1 Op_1 Mp_1
    have C3 := Lib.hid (prtget_any (k : Nat) _ P _ w2 Fp_2.out (Nat.le_refl _))
    rw [HGP.out] at C3
    go_wp2_with (fail)
    refine (C3.out).mono ?_
    rintro e w3 ⟨rfl, -, b3⟩
    rw [HDD.out]
    obtain ⟨X, hX⟩ : ∃ X, (w3.alloc (.cells N 24)).setRow w3.heap.size D = X := ⟨_, rfl⟩
    obtain ⟨hxa, hxb⟩ := bxt_stored hX
    have b' := b3.trans (hxb.mono b3.size)
    have HBX := Lib.hid (HB2.out.trans (b'.mono HB2.out.size))
    have OP := Lib.hid (Op_2.out.below_ b' (Nat.le_refl _))
    have RR := Lib.hid (Fbr_2.out.2.below b' Fbr_2.out.1)
    have RS := Lib.hid (Fbs_2.out.2.below b' Fbs_2.out.1)
    have RX := Lib.hid hxa.2
    have gX : Hid (W.heap.size ≤ w3.heap.size) := Nat.le_trans Mp_2.out.size b3.size
    have HPB : Hid (∀ k, (Value.slice A1 512 c1).ownBlock = some k → k < w3.heap.size) := fun k h => Nat.lt_of_lt_of_le (Op_2.out.lt_ k h).2 b3.size
    clear C3 b3 hxa hxb b' HB2 Op_2 Fp_2 Fbr_2 Fbs_2 Mp_2
    obtain ⟨Y, hY⟩ : ∃ Y, X.setCell ⟨W0.heap.size, 0, none⟩ (.int .u64 ((r0.seq : Nat) + 1 : Int)) = Y := ⟨_, rfl⟩
    have HBY : Hid (Below w.heap.size w Y) := by
      unfold Hid; rw [← hY]
      exact HBX.out.setCell (p := ⟨W0.heap.size, 0, none⟩) HG1.out _
    have OPY : Hid (OwnV Y W.heap.size (.slice A1 512 c1) P) := OP.out.of_block (fun k hk => by
      have h1 := (OP.out.lt_ k hk).1
      have h2 := HG2.out
      rw [← hY]
      exact setCell_block _ _ _ _ _ (by omega))
    have RRY : Hid (Rw Y w.heap.size 24 D) := by
      unfold Hid; rw [← hY]; exact RR.out.setOther (by have := HG3.out; omega) _ _
    have RXY : Hid (Rw Y w3.heap.size 24 D) := by
      unfold Hid; rw [← hY]; exact RX.out.setOther (by have := HG2.out; have := gX.out; omega) _ _
    have RSY : Hid (Rw Y W0.heap.size 24 S1) := by
      have h := RS.out.set 0 (.int .u64 ((r0.seq : Nat) + 1 : Int))
      rw [HSET.out, hY] at h
      exact h
    have gY : Hid (w3.heap.size < Y.heap.size) := RXY.out.lt
    have df : X.frozen? ⟨W0.heap.size, 0, none⟩ = false := RS.out.frozen _
    have dc : X.cell? ⟨W0.heap.size, 0, none⟩ = some (.int .u64 (s0.seq : Nat)) := (RS.out.cell 0).trans HS0.out
    have dr : X.cell? ⟨w.heap.size, 0, none⟩ = some (.int .u64 (r0.seq : Nat)) := (RR.out.cell 0).trans HD0.out
    have C4 := Lib.hid (prtput_any s1 Y HFS1.out)
    rw [HDS.out, HY.out] at C4
    clear HBX OP
    go_wp2_with (first
      | (refine wpList_store_row rfl _ _ _ rfl w3.heap.size D rfl rfl 24 N (Rw.new w3 _ _) vsD hND voD ?_; rw [hX])
      | (refine wpList_load_row_onT (by rfl) _ _ rfl w3.heap.size rfl 24 D (0, 0) _ RX.out Try.underlying24 rfl (by rw [vsD]) ?_)
      | (refine wpList_load_row_onT (by rfl) _ _ rfl w.heap.size rfl 24 D (0, 0) _ RR.out Try.underlying24 rfl (by rw [vsD]) ?_)
      | (refine wpList_load_row rfl _ _ rfl W0.heap.size rfl 24 S1 (0, 0) _ RSY.out Try.underlying24 rfl (by rw [vsS]) ?_))
    refine (C4.out).mono ?_
    rintro e w4 ⟨A4, c4, rfl, o4, b4⟩
    have HB4 := Lib.hid (HBY.out.trans (b4.mono HBY.out.size))
    have OP4 := Lib.hid (OPY.out.below_ b4 (Nat.le_refl _))
    have RR4 := Lib.hid (RRY.out.below b4 RRY.out.lt)
    have RX4 := Lib.hid (RXY.out.below b4 RXY.out.lt)
    have RS4 := Lib.hid (RSY.out.below b4 RSY.out.lt)
    have OQ4 := Lib.hid o4
    clear C4 hX hY df dc dr b4 o4 RX RR RS HBY OPY RRY RXY RSY hwr
    by_cases hE2 : E2 = 0
    · skip
      subst hE2
      obtain ⟨hbk1, hbk2⟩ := HBK.out rfl
      have HBK1 := Lib.hid hbk1
      have HBK2 := Lib.hid hbk2
      have hql := (Rt.page_len hy).1
      have HQL := Lib.hid hql
      rw [hql] at OQ4 ⊢
      obtain ⟨m, hm⟩ : ∃ m, 1 - k = m := ⟨_, rfl⟩
      have hmk : (((m : Nat) : Int) == ((k : Nat) : Int)) = false := by rw [beq_eq_false_iff_ne]; omega
      have HM : Hid (s1.seq % 2 = m) := by unfold Hid; rw [HK1.out, hm]
      have HPS : Hid (∀ w', Below w4.heap.size w4 w' → Calls Try.prog 9 #[.agg S1] w' (fun e w'' => e = .returned (.int .i64 (m : Nat)) ∧ Below w'.heap.size w' w'')) := fun w' hb => by
        have := prtplace_any s1 w' HFS1.out
        rwa [HDS.out, HM.out] at this
      have HPR : Hid (∀ w', Below w4.heap.size w4 w' → Calls Try.prog 9 #[.agg D] w' (fun e w'' => e = .returned (.int .i64 (k : Nat)) ∧ Below w'.heap.size w' w'')) := fun w' hb => by
        have := prtplace_any r0 w' HF.out
        rwa [HDD.out, HKK.out] at this
      have HCR : Hid (∀ w', Below w4.heap.size w4 w' → w'.heap[w.heap.size]? = some (.cells D 24 (0, 0))) := fun w' hb => RR4.out.below hb RR4.out.lt
      have HCS : Hid (∀ w', Below w4.heap.size w4 w' → w'.heap[W0.heap.size]? = some (.cells S1 24 (0, 0))) := fun w' hb => RS4.out.below hb RS4.out.lt
      clear hbk1 hbk2 hql hy hm HBK
      go_wp2
      refine wp_region_grow 4 (by kernel_rfl) (by kernel_rfl) (fun w' => Below w4.heap.size w4 w') ((Below.refl _ _).drew) ?_
      simp only [List.take_succ_cons, List.take_zero, List.drop_succ_cons, List.drop_zero]
      refine wpGrow_load_row rfl _ _ rfl W0.heap.size rfl _ S1 (0, 0) _ (fun w' h => HCS.out w' h) Try.underlying24 rfl vsS ?_
      go_simp
      refine wpGrow_call (v := .int .i64 (m : Nat)) (f := 9) (args := #[.agg S1]) rfl (fun w' => by go_simp) (fun w' h => (HPS.out w' h).mono ?_) ?_
      · rintro e w5 ⟨rfl, hb5⟩
        exact ⟨rfl, h.trans (hb5.mono h.size)⟩
      go_simp
      refine wpGrow_load_row rfl _ _ rfl w.heap.size rfl _ D (0, 0) _ (fun w' h => HCR.out w' h) Try.underlying24 rfl vsD ?_
      go_simp
      refine wpGrow_call (v := .int .i64 (k : Nat)) (f := 9) (args := #[.agg D]) rfl (fun w' => by go_simp) (fun w' h => (HPR.out w' h).mono ?_) ?_
      · rintro e w5 ⟨rfl, hb5⟩
        exact ⟨rfl, h.trans (hb5.mono h.size)⟩
      go_simp
      refine wpGrow_nil ?_
      intro w5 hb5
      have HB5 := Lib.hid (HB4.out.trans (hb5.mono HB4.out.size))
      have OP5 := Lib.hid (OP4.out.below_ hb5 (Nat.le_refl _))
      have OQ5 := Lib.hid (OQ4.out.below_ hb5 (Nat.le_refl _))
      have RR5 := Lib.hid (RR4.out.below hb5 RR4.out.lt)
      have RX5 := Lib.hid (RX4.out.below hb5 RX4.out.lt)
      have RS5 := Lib.hid (RS4.out.below hb5 RS4.out.lt)
      have C6 := Lib.hid (prtplace_any r0 w5 HF.out)
      rw [HDD.out, HKK.out] at C6
      clear hb5 HPS HPR HCR HCS HB4 OP4 OQ4 RR4 RX4 RS4
      go_wp2_with (first
        | (refine wpList_load_row rfl _ _ rfl w.heap.size rfl 24 D (0, 0) _ RR5.out Try.underlying24 rfl (by rw [vsD]) ?_))
      refine (C6.out).mono ?_
      rintro e w6 ⟨rfl, b6⟩
      have HB6 := Lib.hid (HB5.out.trans (b6.mono HB5.out.size))
      have OP6 := Lib.hid (OP5.out.below_ b6 (Nat.le_refl _))
      have OQ6 := Lib.hid (OQ5.out.below_ b6 (Nat.le_refl _))
      have RR6 := Lib.hid (RR5.out.below b6 RR5.out.lt)
      have RX6 := Lib.hid (RX5.out.below b6 RX5.out.lt)
      have RS6 := Lib.hid (RS5.out.below b6 RS5.out.lt)
      clear C6 b6 HB5 OP5 OQ5 RR5 RX5 RS5 hmk
      obtain ⟨y, hyy⟩ : ∃ y, n3 ||| 1 = y := ⟨_, rfl⟩
      have hy8 : y < 256 := by rw [← hyy]; exact Nat.or_lt_two_pow (n := 8) HN3.out (by decide)
      have hy0 : y ≠ 0 := by rw [← hyy]; intro h; have := congrArg (·.testBit 0) h; simp at this
      have hor : bits .or .u8 (n3 : Int) 1 = (y : Int) := by rw [← hyy]; exact or1_u8 n3 HN3.out
      have HY8 := Lib.hid hy8
      have HY0 := Lib.hid hy0
      have HOR := Lib.hid hor
      clear hyy hy8 hy0 hor
      by_cases hk0 : k = 0
      · skip
        have q1 : (((k : Nat) : Int) == 1) = false := by rw [hk0]; rfl
        have HLP := HPL
        have HLQ := HQL
        have HPK : ∀ a b, Rt.pk k a b = Rt.pickE a b := fun a b => by unfold Rt.pk; rw [if_pos hk0]
        rw [HPK] at HBK1
        simp only [HPK] at HBK2
        by_cases hneg : a2 < 0
        · skip
          have G1 : Hid (IntKind.i64.wrap (a2 + 1) = a2 + 1) := by unfold Hid; rw [IntKind.wrap_i64]; omega
          have G2 : Hid (IntKind.i64.wrap (-(a2 + 1)) = -(a2 + 1)) := by unfold Hid; rw [IntKind.wrap_i64]; omega
          obtain ⟨t, ht⟩ : ∃ t : Nat, -(a2 + 1) = (t : Int) := ⟨(-(a2 + 1)).toNat, by omega⟩
          have HT : Hid ((t : Int) ≤ 9223372036854775807) := by unfold Hid; omega
          obtain ⟨p, hp⟩ : ∃ p : Nat, t % 512 = p := ⟨_, rfl⟩
          have hp5 : p < 512 := by omega
          have g3 : (t : Int) % 512 = (p : Int) := by omega
          have g4 : Int.tmod (t : Int) 512 = (p : Int) := by rw [Int.tmod_eq_emod_of_nonneg (by omega)]; exact g3
          have g5 : wrap64 (t : Int) = (t : Int) := by have := HT.out; unfold wrap64; omega
          have g6 : (0 : Int) ≤ (p : Int) := by omega
          have g7 : (p : Int) < 512 := by omega
          have HP5 := Lib.hid hp5
          have G3 := Lib.hid g3
          have G4 := Lib.hid g4
          have G5 := Lib.hid g5
          clear hp hp5 hI2 g3 g4 g5
          have HTT := Lib.hid ht
          clear ht
          have C7 := Lib.hid (prtpick_any _ _ P Q _ _ w6 OP6.out.form_ OQ6.out.form_ (Nat.le_refl _) (Nat.le_refl _))
          rw [HBK1.out] at C7
          go_wp2_with (fail)
          refine (C7.out).mono ?_
          rintro e v7 ⟨rfl, -, b7⟩
          rw [HDS.out]
          obtain ⟨Z7, hZ7⟩ : ∃ Z, v7.setRow w3.heap.size S1 = Z := ⟨_, rfl⟩
          have RXo := Lib.hid (RX6.out.below b7 RX6.out.lt)
          have HB7 : Hid (Below w.heap.size w Z7) := by
            unfold Hid; rw [← hZ7]; exact below_setRow (HB6.out.trans (b7.mono HB6.out.size)) (by have := HG1.out; have := HG2.out; have := gX.out; omega) _
          have OP7 : Hid (OwnV Z7 W.heap.size (.slice A1 512 c1) P) := (OP6.out.below_ b7 (Nat.le_refl _)).of_block (fun k hk => by
            have h1 := HPB.out k hk
            rw [← hZ7]
            exact setRow_other _ _ _ _ (by omega))
          have OQ7 : Hid (OwnV Z7 Y.heap.size (.slice A4 512 c4) Q) := (OQ6.out.below_ b7 (Nat.le_refl _)).of_block (fun k hk => by
            have h1 := (OQ6.out.lt_ k hk).1
            have h2 := gY.out
            rw [← hZ7]
            exact setRow_other _ _ _ _ (by omega))
          have RR7 : Hid (Rw Z7 w.heap.size 24 D) := by
            unfold Hid; rw [← hZ7]; exact (RR6.out.below b7 RR6.out.lt).rowOther (by have := HG3.out; have := HG2.out; have := gX.out; omega) _
          have RS7 : Hid (Rw Z7 W0.heap.size 24 S1) := by
            unfold Hid; rw [← hZ7]; exact (RS6.out.below b7 RS6.out.lt).rowOther (by have := HG2.out; have := gX.out; omega) _
          have RX7 : Hid (Rw Z7 w3.heap.size 24 S1) := by
            unfold Hid; rw [← hZ7]; exact RXo.out.row _
          clear C7 b7 HB6 OP6 OQ6 RR6 RX6 RS6
          obtain ⟨gQ, q8, hA8, -, hbg8, hU8, hq8, hcl8, hfr8⟩ := OQ7.out.byte_ (k := p) (by have := HLQ.out; have := HP5.out; omega)
          subst hA8
          have hU8' : q8 < 256 := hU8
          have hxr8 := xor_u8_nat q8 y hU8' HY8.out
          obtain ⟨z8, hz8⟩ : ∃ z, q8 ^^^ y = z := ⟨_, rfl⟩
          have hzb : z8 < 256 := by rw [← hz8]; exact Nat.xor_lt_two_pow (n := 8) hU8' HY8.out
          rw [hz8] at hxr8
          have hset := OQ7.out.drew_.setByte_ (j := p) (by have := HLQ.out; have := HP5.out; omega) (x := z8) hzb
          obtain ⟨Q1, hM8⟩ : ∃ M, Q.set p z8 = M := ⟨_, rfl⟩
          obtain ⟨V8, hV8⟩ : ∃ V, Z7.drew.setCell ⟨gQ, p, none⟩ (.int .u8 (z8 : Nat)) = V := ⟨_, rfl⟩
          have HLQ1 : Hid (Q1.length = 512) := by unfold Hid; rw [← hM8, List.length_set]; exact HLQ.out
          have HQ8 := Lib.hid hq8
          have HZ8 := Lib.hid hz8
          have HZ88 := Lib.hid hzb
          have HM8 := Lib.hid hM8
          have HBG8 := Lib.hid hbg8
          have OP8 : Hid (OwnV V8 W.heap.size (.slice A1 512 c1) P) := OP7.out.drew_.of_block (fun k hk => by
            have h1 := HPB.out k hk
            have h2 := gY.out
            have h3 := HBG8.out
            rw [← hV8]
            exact setCell_block _ _ _ _ _ (by omega))
          have OQ8 : Hid (OwnV V8 Y.heap.size (.slice (some ⟨gQ, 0, none⟩) 512 c4) Q1) := by
            unfold Hid; rw [← hV8, ← hM8]; exact hset.1
          have HB8 : Hid (Below w.heap.size w V8) := by
            unfold Hid; rw [← hV8]; exact HB7.out.drew.setCell (p := ⟨gQ, p, none⟩) (show w.heap.size ≤ gQ from (by have := HG1.out; have := HG2.out; have := HG3.out; have := HBG8.out; have := gX.out; have := gY.out; omega)) _
          have RR8 : Hid (Rw V8 w.heap.size 24 D) := by
            unfold Hid; rw [← hV8]; exact RR7.out.drew.setOther (by have := HG1.out; have := HG2.out; have := HG3.out; have := HBG8.out; have := gX.out; have := gY.out; omega) _ _
          have RS8 : Hid (Rw V8 W0.heap.size 24 S1) := by
            unfold Hid; rw [← hV8]; exact RS7.out.drew.setOther (by have := HG1.out; have := HG2.out; have := HG3.out; have := HBG8.out; have := gX.out; have := gY.out; omega) _ _
          have RX8 : Hid (Rw V8 w3.heap.size 24 S1) := by
            unfold Hid; rw [← hV8]; exact RX7.out.drew.setOther (by have := HG1.out; have := HG2.out; have := HG3.out; have := HBG8.out; have := gX.out; have := gY.out; omega) _ _
          clear hU8 hU8' hzb hset hM8 hq8 hz8 hbg8
          have HPK8 : Hid (Rt.pickE P Q1 = (r0, 0)) := by
            unfold Hid
            rw [← HM8.out]
            refine (HBK2.out p z8 HP5.out HZ88.out).1 ?_
            rw [HQ8.out]
            intro h
            injection h with h
            have h2 := HZ8.out
            rw [← h] at h2
            have h3 := congrArg (q8 ^^^ ·) h2
            simp only [← Nat.xor_assoc, Nat.xor_self, Nat.zero_xor] at h3
            exact HY0.out h3
          have C9 := Lib.hid (prtpick_any _ _ P Q1 _ _ V8 OP8.out.form_ OQ8.out.form_ (Nat.le_refl _) (Nat.le_refl _))
          rw [HPK8.out] at C9
          have hor := HOR.out
          have g3 := G3.out
          have g4 := G4.out
          have g5 := G5.out
          have g1 := G1.out
          have g2 := G2.out
          have ht := HTT.out
          go_wp2_with (first
            | (refine wpList_store_row rfl _ _ _ rfl w3.heap.size S1 rfl rfl 24 D RXo.out vsS hDS voS ?_; rw [hZ7])
            | (refine wpList_load_row_onT (by rfl) _ _ rfl w3.heap.size rfl 24 S1 (0, 0) _ RX7.out Try.underlying24 rfl (by rw [vsS]) ?_)
            | (refine wpList_load_row_onT (by rfl) _ _ rfl w.heap.size rfl 24 D (0, 0) _ RR7.out Try.underlying24 rfl (by rw [vsD]) ?_)
            | (refine wpList_load_row_onT (by rfl) _ _ rfl W0.heap.size rfl 24 S1 (0, 0) _ RS7.out Try.underlying24 rfl (by rw [vsS]) ?_))
          clear hZ7 RXo
          go_still_tail 15, (by kernel_rfl)
          change wpList _ _ _ _ _ Z7.drew
          go_wp2_with (fail)
          clear hor g3 g4 g5 g1 g2 ht
          refine (C9.out).mono ?_
          rintro e v9 ⟨rfl, -, b9⟩
          rw [HDD.out]
          obtain ⟨Z9, hZ9⟩ : ∃ Z, v9.setRow w3.heap.size D = Z := ⟨_, rfl⟩
          have RXo := Lib.hid (RX8.out.below b9 RX8.out.lt)
          have HB9 : Hid (Below w.heap.size w Z9) := by
            unfold Hid; rw [← hZ9]; exact below_setRow (HB8.out.trans (b9.mono HB8.out.size)) (by have := HG1.out; have := HG2.out; have := gX.out; omega) _
          have OP9 : Hid (OwnV Z9 W.heap.size (.slice A1 512 c1) P) := (OP8.out.below_ b9 (Nat.le_refl _)).of_block (fun k hk => by
            have h1 := HPB.out k hk
            rw [← hZ9]
            exact setRow_other _ _ _ _ (by omega))
          have OQ9 : Hid (OwnV Z9 Y.heap.size (.slice (some ⟨gQ, 0, none⟩) 512 c4) Q1) := (OQ8.out.below_ b9 (Nat.le_refl _)).of_block (fun k hk => by
            have h1 := (OQ8.out.lt_ k hk).1
            have h2 := gY.out
            rw [← hZ9]
            exact setRow_other _ _ _ _ (by omega))
          have RR9 : Hid (Rw Z9 w.heap.size 24 D) := by
            unfold Hid; rw [← hZ9]; exact (RR8.out.below b9 RR8.out.lt).rowOther (by have := HG3.out; have := HG2.out; have := gX.out; omega) _
          have RS9 : Hid (Rw Z9 W0.heap.size 24 S1) := by
            unfold Hid; rw [← hZ9]; exact (RS8.out.below b9 RS8.out.lt).rowOther (by have := HG2.out; have := gX.out; omega) _
          have RX9 : Hid (Rw Z9 w3.heap.size 24 D) := by
            unfold Hid; rw [← hZ9]; exact RXo.out.row _
          clear C9 b9 HB8 OP8 OQ8 RR8 RX8 RS8
          obtain ⟨g', q10, hA10, -, hbg10, hU10, hq10, hcl10, hfr10⟩ := OQ9.out.byte_ (k := p) (by have := HLQ1.out; have := HP5.out; omega)
          obtain rfl : gQ = g' := by simpa using hA10
          clear hA10
          have hU10' : q10 < 256 := hU10
          have hxr10 := xor_u8_nat q10 y hU10' HY8.out
          obtain ⟨z10, hz10⟩ : ∃ z, q10 ^^^ y = z := ⟨_, rfl⟩
          have hzb : z10 < 256 := by rw [← hz10]; exact Nat.xor_lt_two_pow (n := 8) hU10' HY8.out
          rw [hz10] at hxr10
          have hset := OQ9.out.drew_.setByte_ (j := p) (by have := HLQ1.out; have := HP5.out; omega) (x := z10) hzb
          obtain ⟨Q2, hM10⟩ : ∃ M, Q1.set p z10 = M := ⟨_, rfl⟩
          obtain ⟨V10, hV10⟩ : ∃ V, Z9.drew.setCell ⟨gQ, p, none⟩ (.int .u8 (z10 : Nat)) = V := ⟨_, rfl⟩
          have HLQ2 : Hid (Q2.length = 512) := by unfold Hid; rw [← hM10, List.length_set]; exact HLQ1.out
          have HQ10 := Lib.hid hq10
          have HZ10 := Lib.hid hz10
          have HZ810 := Lib.hid hzb
          have HM10 := Lib.hid hM10
          have HBG10 := Lib.hid hbg10
          have OP10 : Hid (OwnV V10 W.heap.size (.slice A1 512 c1) P) := OP9.out.drew_.of_block (fun k hk => by
            have h1 := HPB.out k hk
            have h2 := gY.out
            have h3 := HBG10.out
            rw [← hV10]
            exact setCell_block _ _ _ _ _ (by omega))
          have OQ10 : Hid (OwnV V10 Y.heap.size (.slice (some ⟨gQ, 0, none⟩) 512 c4) Q2) := by
            unfold Hid; rw [← hV10, ← hM10]; exact hset.1
          have HB10 : Hid (Below w.heap.size w V10) := by
            unfold Hid; rw [← hV10]; exact HB9.out.drew.setCell (p := ⟨gQ, p, none⟩) (show w.heap.size ≤ gQ from (by have := HG1.out; have := HG2.out; have := HG3.out; have := HBG10.out; have := gX.out; have := gY.out; omega)) _
          have RR10 : Hid (Rw V10 w.heap.size 24 D) := by
            unfold Hid; rw [← hV10]; exact RR9.out.drew.setOther (by have := HG1.out; have := HG2.out; have := HG3.out; have := HBG10.out; have := gX.out; have := gY.out; omega) _ _
          have RS10 : Hid (Rw V10 W0.heap.size 24 S1) := by
            unfold Hid; rw [← hV10]; exact RS9.out.drew.setOther (by have := HG1.out; have := HG2.out; have := HG3.out; have := HBG10.out; have := gX.out; have := gY.out; omega) _ _
          have RX10 : Hid (Rw V10 w3.heap.size 24 D) := by
            unfold Hid; rw [← hV10]; exact RX9.out.drew.setOther (by have := HG1.out; have := HG2.out; have := HG3.out; have := HBG10.out; have := gX.out; have := gY.out; omega) _ _
          clear hU10 hU10' hzb hset hM10 hq10 hz10 hbg10
          have HQQ : Q2 = Q := by
            have e1 := HQ10.out
            rw [← HM8.out, List.getElem?_set_self (by have := HLQ.out; have := HP5.out; omega)] at e1
            injection e1 with e1
            have e2 : z10 = q8 := by rw [← HZ10.out, ← e1, ← HZ8.out, Nat.xor_assoc, Nat.xor_self, Nat.xor_zero]
            rw [← HM10.out, ← HM8.out, List.set_set, e2]
            exact Rt.set_same HQ8.out
          rw [HQQ] at OQ10
          obtain ⟨gP, q11, hA11, -, hbg11, hU11, hq11, hcl11, hfr11⟩ := OP10.out.byte_ (k := p) (by have := HLP.out; have := HP5.out; omega)
          subst hA11
          have hU11' : q11 < 256 := hU11
          have hxr11 := xor_u8_nat q11 y hU11' HY8.out
          obtain ⟨z11, hz11⟩ : ∃ z, q11 ^^^ y = z := ⟨_, rfl⟩
          have hzb : z11 < 256 := by rw [← hz11]; exact Nat.xor_lt_two_pow (n := 8) hU11' HY8.out
          rw [hz11] at hxr11
          have hset := OP10.out.drew_.setByte_ (j := p) (by have := HLP.out; have := HP5.out; omega) (x := z11) hzb
          obtain ⟨P1, hM11⟩ : ∃ M, P.set p z11 = M := ⟨_, rfl⟩
          obtain ⟨V11, hV11⟩ : ∃ V, V10.drew.setCell ⟨gP, p, none⟩ (.int .u8 (z11 : Nat)) = V := ⟨_, rfl⟩
          have HLP1 : Hid (P1.length = 512) := by unfold Hid; rw [← hM11, List.length_set]; exact HLP.out
          have HQ11 := Lib.hid hq11
          have HZ11 := Lib.hid hz11
          have HZ811 := Lib.hid hzb
          have HM11 := Lib.hid hM11
          have HBG11 := Lib.hid hbg11
          have hgl : gP < w3.heap.size := HPB.out gP rfl
          have OQ11 : Hid (OwnV V11 Y.heap.size (.slice (some ⟨gQ, 0, none⟩) 512 c4) Q) := OQ10.out.drew_.of_block (fun k hk => by
            have h1 := (OQ10.out.lt_ k hk).1
            have h2 := gY.out
            rw [← hV11]
            exact setCell_block _ _ _ _ _ (by omega))
          have OP11 : Hid (OwnV V11 W.heap.size (.slice (some ⟨gP, 0, none⟩) 512 c1) P1) := by
            unfold Hid; rw [← hV11, ← hM11]; exact hset.1
          have HB11 : Hid (Below w.heap.size w V11) := by
            unfold Hid; rw [← hV11]; exact HB10.out.drew.setCell (p := ⟨gP, p, none⟩) (show w.heap.size ≤ gP from (by have := HG1.out; have := HG2.out; have := HG3.out; have := HBG11.out; omega)) _
          have RR11 : Hid (Rw V11 w.heap.size 24 D) := by
            unfold Hid; rw [← hV11]; exact RR10.out.drew.setOther (by have := HG1.out; have := HG2.out; have := HG3.out; have := HBG11.out; omega) _ _
          have RS11 : Hid (Rw V11 W0.heap.size 24 S1) := by
            unfold Hid; rw [← hV11]; exact RS10.out.drew.setOther (by have := HG1.out; have := HG2.out; have := HG3.out; have := HBG11.out; omega) _ _
          have RX11 : Hid (Rw V11 w3.heap.size 24 D) := by
            unfold Hid; rw [← hV11]; exact RX10.out.drew.setOther (by omega) _ _
          clear hU11 hU11' hzb hset hM11 hq11 hz11 hbg11
          clear hgl
          have HPK11 : Hid (Rt.pickE P1 Q = (s1, 0)) := by
            unfold Hid
            rw [← HM11.out]
            refine (HBK2.out p z11 HP5.out HZ811.out).2 ?_
            rw [HQ11.out]
            intro h
            injection h with h
            have h2 := HZ11.out
            rw [← h] at h2
            have h3 := congrArg (q11 ^^^ ·) h2
            simp only [← Nat.xor_assoc, Nat.xor_self, Nat.zero_xor] at h3
            exact HY0.out h3
          have C12 := Lib.hid (prtpick_any _ _ P1 Q _ _ V11 OP11.out.form_ OQ11.out.form_ (Nat.le_refl _) (Nat.le_refl _))
          rw [HPK11.out] at C12
          have g3 := G3.out
          have g4 := G4.out
          have g5 := G5.out
          go_wp2_with (first
            | (refine wpList_store_row rfl _ _ _ rfl w3.heap.size D rfl rfl 24 S1 RXo.out vsD hDS.symm voD ?_; rw [hZ9])
            | (refine wpList_load_row_onT (by rfl) _ _ rfl w3.heap.size rfl 24 D (0, 0) _ RX9.out Try.underlying24 rfl (by rw [vsD]) ?_)
            | (refine wpList_load_row_onT (by rfl) _ _ rfl w.heap.size rfl 24 D (0, 0) _ RR9.out Try.underlying24 rfl (by rw [vsD]) ?_)
            | (refine wpList_load_row_onT (by rfl) _ _ rfl W0.heap.size rfl 24 S1 (0, 0) _ RS9.out Try.underlying24 rfl (by rw [vsS]) ?_))
          clear hZ9 RXo
          go_still_tail 15, (by kernel_rfl)
          change wpList _ _ _ _ _ Z9.drew
          go_wp2_with (fail)
          go_still_tail 15, (by kernel_rfl)
          change wpList _ _ _ _ _ V10.drew
          go_wp2_with (fail)
          clear g3 g4 g5
          refine (C12.out).mono ?_
          rintro e v12 ⟨rfl, -, b12⟩
          rw [HDS.out]
          obtain ⟨Z12, hZ12⟩ : ∃ Z, v12.setRow w3.heap.size S1 = Z := ⟨_, rfl⟩
          have RXo := Lib.hid (RX11.out.below b12 RX11.out.lt)
          have HB12 : Hid (Below w.heap.size w Z12) := by
            unfold Hid; rw [← hZ12]; exact below_setRow (HB11.out.trans (b12.mono HB11.out.size)) (by have := HG1.out; have := HG2.out; have := gX.out; omega) _
          have OP12 : Hid (OwnV Z12 W.heap.size (.slice (some ⟨gP, 0, none⟩) 512 c1) P1) := (OP11.out.below_ b12 (Nat.le_refl _)).of_block (fun k hk => by
            have h1 := HPB.out k hk
            rw [← hZ12]
            exact setRow_other _ _ _ _ (by omega))
          have OQ12 : Hid (OwnV Z12 Y.heap.size (.slice (some ⟨gQ, 0, none⟩) 512 c4) Q) := (OQ11.out.below_ b12 (Nat.le_refl _)).of_block (fun k hk => by
            have h1 := (OQ11.out.lt_ k hk).1
            have h2 := gY.out
            rw [← hZ12]
            exact setRow_other _ _ _ _ (by omega))
          have RR12 : Hid (Rw Z12 w.heap.size 24 D) := by
            unfold Hid; rw [← hZ12]; exact (RR11.out.below b12 RR11.out.lt).rowOther (by have := HG3.out; have := HG2.out; have := gX.out; omega) _
          have RS12 : Hid (Rw Z12 W0.heap.size 24 S1) := by
            unfold Hid; rw [← hZ12]; exact (RS11.out.below b12 RS11.out.lt).rowOther (by have := HG2.out; have := gX.out; omega) _
          have RX12 : Hid (Rw Z12 w3.heap.size 24 S1) := by
            unfold Hid; rw [← hZ12]; exact RXo.out.row _
          clear C12 b12 HB11 OP11 OQ11 RR11 RX11 RS11
          have C13 := Lib.hid (lives_rt Z12)
          go_wp2_with (first
            | (refine wpList_store_row rfl _ _ _ rfl w3.heap.size S1 rfl rfl 24 D RXo.out vsS hDS voS ?_; rw [hZ12])
            | (refine wpList_load_row_onT (by rfl) _ _ rfl w3.heap.size rfl 24 S1 (0, 0) _ RX12.out Try.underlying24 rfl (by rw [vsS]) ?_)
            | (refine wpList_load_row_onT (by rfl) _ _ rfl w.heap.size rfl 24 D (0, 0) _ RR12.out Try.underlying24 rfl (by rw [vsD]) ?_)
            | (refine wpList_load_row_onT (by rfl) _ _ rfl W0.heap.size rfl 24 S1 (0, 0) _ RS12.out Try.underlying24 rfl (by rw [vsS]) ?_))
          refine (C13.out).mono ?_
          rintro e w13 ⟨rfl, b13⟩
          have HB13 := Lib.hid (HB12.out.trans (b13.mono HB12.out.size))
          clear C13 b13
          go_wp2
          go_ret
          exact ⟨rfl, HB13.out⟩
        · skip
          obtain ⟨t, ht⟩ : ∃ t : Nat, a2 = (t : Int) := ⟨a2.toNat, by omega⟩
          subst ht
          have HT : Hid ((t : Int) ≤ 9223372036854775807) := by unfold Hid; omega
          obtain ⟨p, hp⟩ : ∃ p : Nat, t % 512 = p := ⟨_, rfl⟩
          have hp5 : p < 512 := by omega
          have g3 : (t : Int) % 512 = (p : Int) := by omega
          have g4 : Int.tmod (t : Int) 512 = (p : Int) := by rw [Int.tmod_eq_emod_of_nonneg (by omega)]; exact g3
          have g5 : wrap64 (t : Int) = (t : Int) := by have := HT.out; unfold wrap64; omega
          have g6 : (0 : Int) ≤ (p : Int) := by omega
          have g7 : (p : Int) < 512 := by omega
          have HP5 := Lib.hid hp5
          have G3 := Lib.hid g3
          have G4 := Lib.hid g4
          have G5 := Lib.hid g5
          clear hp hp5 hI2 g3 g4 g5
          have C7 := Lib.hid (prtpick_any _ _ P Q _ _ w6 OP6.out.form_ OQ6.out.form_ (Nat.le_refl _) (Nat.le_refl _))
          rw [HBK1.out] at C7
          go_wp2_with (fail)
          refine (C7.out).mono ?_
          rintro e v7 ⟨rfl, -, b7⟩
          rw [HDS.out]
          obtain ⟨Z7, hZ7⟩ : ∃ Z, v7.setRow w3.heap.size S1 = Z := ⟨_, rfl⟩
          have RXo := Lib.hid (RX6.out.below b7 RX6.out.lt)
          have HB7 : Hid (Below w.heap.size w Z7) := by
            unfold Hid; rw [← hZ7]; exact below_setRow (HB6.out.trans (b7.mono HB6.out.size)) (by have := HG1.out; have := HG2.out; have := gX.out; omega) _
          have OP7 : Hid (OwnV Z7 W.heap.size (.slice A1 512 c1) P) := (OP6.out.below_ b7 (Nat.le_refl _)).of_block (fun k hk => by
            have h1 := HPB.out k hk
            rw [← hZ7]
            exact setRow_other _ _ _ _ (by omega))
          have OQ7 : Hid (OwnV Z7 Y.heap.size (.slice A4 512 c4) Q) := (OQ6.out.below_ b7 (Nat.le_refl _)).of_block (fun k hk => by
            have h1 := (OQ6.out.lt_ k hk).1
            have h2 := gY.out
            rw [← hZ7]
            exact setRow_other _ _ _ _ (by omega))
          have RR7 : Hid (Rw Z7 w.heap.size 24 D) := by
            unfold Hid; rw [← hZ7]; exact (RR6.out.below b7 RR6.out.lt).rowOther (by have := HG3.out; have := HG2.out; have := gX.out; omega) _
          have RS7 : Hid (Rw Z7 W0.heap.size 24 S1) := by
            unfold Hid; rw [← hZ7]; exact (RS6.out.below b7 RS6.out.lt).rowOther (by have := HG2.out; have := gX.out; omega) _
          have RX7 : Hid (Rw Z7 w3.heap.size 24 S1) := by
            unfold Hid; rw [← hZ7]; exact RXo.out.row _
          clear C7 b7 HB6 OP6 OQ6 RR6 RX6 RS6
          obtain ⟨gQ, q8, hA8, -, hbg8, hU8, hq8, hcl8, hfr8⟩ := OQ7.out.byte_ (k := p) (by have := HLQ.out; have := HP5.out; omega)
          subst hA8
          have hU8' : q8 < 256 := hU8
          have hxr8 := xor_u8_nat q8 y hU8' HY8.out
          obtain ⟨z8, hz8⟩ : ∃ z, q8 ^^^ y = z := ⟨_, rfl⟩
          have hzb : z8 < 256 := by rw [← hz8]; exact Nat.xor_lt_two_pow (n := 8) hU8' HY8.out
          rw [hz8] at hxr8
          have hset := OQ7.out.drew_.setByte_ (j := p) (by have := HLQ.out; have := HP5.out; omega) (x := z8) hzb
          obtain ⟨Q1, hM8⟩ : ∃ M, Q.set p z8 = M := ⟨_, rfl⟩
          obtain ⟨V8, hV8⟩ : ∃ V, Z7.drew.setCell ⟨gQ, p, none⟩ (.int .u8 (z8 : Nat)) = V := ⟨_, rfl⟩
          have HLQ1 : Hid (Q1.length = 512) := by unfold Hid; rw [← hM8, List.length_set]; exact HLQ.out
          have HQ8 := Lib.hid hq8
          have HZ8 := Lib.hid hz8
          have HZ88 := Lib.hid hzb
          have HM8 := Lib.hid hM8
          have HBG8 := Lib.hid hbg8
          have OP8 : Hid (OwnV V8 W.heap.size (.slice A1 512 c1) P) := OP7.out.drew_.of_block (fun k hk => by
            have h1 := HPB.out k hk
            have h2 := gY.out
            have h3 := HBG8.out
            rw [← hV8]
            exact setCell_block _ _ _ _ _ (by omega))
          have OQ8 : Hid (OwnV V8 Y.heap.size (.slice (some ⟨gQ, 0, none⟩) 512 c4) Q1) := by
            unfold Hid; rw [← hV8, ← hM8]; exact hset.1
          have HB8 : Hid (Below w.heap.size w V8) := by
            unfold Hid; rw [← hV8]; exact HB7.out.drew.setCell (p := ⟨gQ, p, none⟩) (show w.heap.size ≤ gQ from (by have := HG1.out; have := HG2.out; have := HG3.out; have := HBG8.out; have := gX.out; have := gY.out; omega)) _
          have RR8 : Hid (Rw V8 w.heap.size 24 D) := by
            unfold Hid; rw [← hV8]; exact RR7.out.drew.setOther (by have := HG1.out; have := HG2.out; have := HG3.out; have := HBG8.out; have := gX.out; have := gY.out; omega) _ _
          have RS8 : Hid (Rw V8 W0.heap.size 24 S1) := by
            unfold Hid; rw [← hV8]; exact RS7.out.drew.setOther (by have := HG1.out; have := HG2.out; have := HG3.out; have := HBG8.out; have := gX.out; have := gY.out; omega) _ _
          have RX8 : Hid (Rw V8 w3.heap.size 24 S1) := by
            unfold Hid; rw [← hV8]; exact RX7.out.drew.setOther (by have := HG1.out; have := HG2.out; have := HG3.out; have := HBG8.out; have := gX.out; have := gY.out; omega) _ _
          clear hU8 hU8' hzb hset hM8 hq8 hz8 hbg8
          have HPK8 : Hid (Rt.pickE P Q1 = (r0, 0)) := by
            unfold Hid
            rw [← HM8.out]
            refine (HBK2.out p z8 HP5.out HZ88.out).1 ?_
            rw [HQ8.out]
            intro h
            injection h with h
            have h2 := HZ8.out
            rw [← h] at h2
            have h3 := congrArg (q8 ^^^ ·) h2
            simp only [← Nat.xor_assoc, Nat.xor_self, Nat.zero_xor] at h3
            exact HY0.out h3
          have C9 := Lib.hid (prtpick_any _ _ P Q1 _ _ V8 OP8.out.form_ OQ8.out.form_ (Nat.le_refl _) (Nat.le_refl _))
          rw [HPK8.out] at C9
          have hor := HOR.out
          have g3 := G3.out
          have g4 := G4.out
          have g5 := G5.out
          go_wp2_with (first
            | (refine wpList_store_row rfl _ _ _ rfl w3.heap.size S1 rfl rfl 24 D RXo.out vsS hDS voS ?_; rw [hZ7])
            | (refine wpList_load_row_onT (by rfl) _ _ rfl w3.heap.size rfl 24 S1 (0, 0) _ RX7.out Try.underlying24 rfl (by rw [vsS]) ?_)
            | (refine wpList_load_row_onT (by rfl) _ _ rfl w.heap.size rfl 24 D (0, 0) _ RR7.out Try.underlying24 rfl (by rw [vsD]) ?_)
            | (refine wpList_load_row_onT (by rfl) _ _ rfl W0.heap.size rfl 24 S1 (0, 0) _ RS7.out Try.underlying24 rfl (by rw [vsS]) ?_))
          clear hZ7 RXo
          go_still_tail 15, (by kernel_rfl)
          change wpList _ _ _ _ _ Z7.drew
          go_wp2_with (fail)
          clear hor g3 g4 g5
          refine (C9.out).mono ?_
          rintro e v9 ⟨rfl, -, b9⟩
          rw [HDD.out]
          obtain ⟨Z9, hZ9⟩ : ∃ Z, v9.setRow w3.heap.size D = Z := ⟨_, rfl⟩
          have RXo := Lib.hid (RX8.out.below b9 RX8.out.lt)
          have HB9 : Hid (Below w.heap.size w Z9) := by
            unfold Hid; rw [← hZ9]; exact below_setRow (HB8.out.trans (b9.mono HB8.out.size)) (by have := HG1.out; have := HG2.out; have := gX.out; omega) _
          have OP9 : Hid (OwnV Z9 W.heap.size (.slice A1 512 c1) P) := (OP8.out.below_ b9 (Nat.le_refl _)).of_block (fun k hk => by
            have h1 := HPB.out k hk
            rw [← hZ9]
            exact setRow_other _ _ _ _ (by omega))
          have OQ9 : Hid (OwnV Z9 Y.heap.size (.slice (some ⟨gQ, 0, none⟩) 512 c4) Q1) := (OQ8.out.below_ b9 (Nat.le_refl _)).of_block (fun k hk => by
            have h1 := (OQ8.out.lt_ k hk).1
            have h2 := gY.out
            rw [← hZ9]
            exact setRow_other _ _ _ _ (by omega))
          have RR9 : Hid (Rw Z9 w.heap.size 24 D) := by
            unfold Hid; rw [← hZ9]; exact (RR8.out.below b9 RR8.out.lt).rowOther (by have := HG3.out; have := HG2.out; have := gX.out; omega) _
          have RS9 : Hid (Rw Z9 W0.heap.size 24 S1) := by
            unfold Hid; rw [← hZ9]; exact (RS8.out.below b9 RS8.out.lt).rowOther (by have := HG2.out; have := gX.out; omega) _
          have RX9 : Hid (Rw Z9 w3.heap.size 24 D) := by
            unfold Hid; rw [← hZ9]; exact RXo.out.row _
          clear C9 b9 HB8 OP8 OQ8 RR8 RX8 RS8
          obtain ⟨g', q10, hA10, -, hbg10, hU10, hq10, hcl10, hfr10⟩ := OQ9.out.byte_ (k := p) (by have := HLQ1.out; have := HP5.out; omega)
          obtain rfl : gQ = g' := by simpa using hA10
          clear hA10
          have hU10' : q10 < 256 := hU10
          have hxr10 := xor_u8_nat q10 y hU10' HY8.out
          obtain ⟨z10, hz10⟩ : ∃ z, q10 ^^^ y = z := ⟨_, rfl⟩
          have hzb : z10 < 256 := by rw [← hz10]; exact Nat.xor_lt_two_pow (n := 8) hU10' HY8.out
          rw [hz10] at hxr10
          have hset := OQ9.out.drew_.setByte_ (j := p) (by have := HLQ1.out; have := HP5.out; omega) (x := z10) hzb
          obtain ⟨Q2, hM10⟩ : ∃ M, Q1.set p z10 = M := ⟨_, rfl⟩
          obtain ⟨V10, hV10⟩ : ∃ V, Z9.drew.setCell ⟨gQ, p, none⟩ (.int .u8 (z10 : Nat)) = V := ⟨_, rfl⟩
          have HLQ2 : Hid (Q2.length = 512) := by unfold Hid; rw [← hM10, List.length_set]; exact HLQ1.out
          have HQ10 := Lib.hid hq10
          have HZ10 := Lib.hid hz10
          have HZ810 := Lib.hid hzb
          have HM10 := Lib.hid hM10
          have HBG10 := Lib.hid hbg10
          have OP10 : Hid (OwnV V10 W.heap.size (.slice A1 512 c1) P) := OP9.out.drew_.of_block (fun k hk => by
            have h1 := HPB.out k hk
            have h2 := gY.out
            have h3 := HBG10.out
            rw [← hV10]
            exact setCell_block _ _ _ _ _ (by omega))
          have OQ10 : Hid (OwnV V10 Y.heap.size (.slice (some ⟨gQ, 0, none⟩) 512 c4) Q2) := by
            unfold Hid; rw [← hV10, ← hM10]; exact hset.1
          have HB10 : Hid (Below w.heap.size w V10) := by
            unfold Hid; rw [← hV10]; exact HB9.out.drew.setCell (p := ⟨gQ, p, none⟩) (show w.heap.size ≤ gQ from (by have := HG1.out; have := HG2.out; have := HG3.out; have := HBG10.out; have := gX.out; have := gY.out; omega)) _
          have RR10 : Hid (Rw V10 w.heap.size 24 D) := by
            unfold Hid; rw [← hV10]; exact RR9.out.drew.setOther (by have := HG1.out; have := HG2.out; have := HG3.out; have := HBG10.out; have := gX.out; have := gY.out; omega) _ _
          have RS10 : Hid (Rw V10 W0.heap.size 24 S1) := by
            unfold Hid; rw [← hV10]; exact RS9.out.drew.setOther (by have := HG1.out; have := HG2.out; have := HG3.out; have := HBG10.out; have := gX.out; have := gY.out; omega) _ _
          have RX10 : Hid (Rw V10 w3.heap.size 24 D) := by
            unfold Hid; rw [← hV10]; exact RX9.out.drew.setOther (by have := HG1.out; have := HG2.out; have := HG3.out; have := HBG10.out; have := gX.out; have := gY.out; omega) _ _
          clear hU10 hU10' hzb hset hM10 hq10 hz10 hbg10
          have HQQ : Q2 = Q := by
            have e1 := HQ10.out
            rw [← HM8.out, List.getElem?_set_self (by have := HLQ.out; have := HP5.out; omega)] at e1
            injection e1 with e1
            have e2 : z10 = q8 := by rw [← HZ10.out, ← e1, ← HZ8.out, Nat.xor_assoc, Nat.xor_self, Nat.xor_zero]
            rw [← HM10.out, ← HM8.out, List.set_set, e2]
            exact Rt.set_same HQ8.out
          rw [HQQ] at OQ10
          obtain ⟨gP, q11, hA11, -, hbg11, hU11, hq11, hcl11, hfr11⟩ := OP10.out.byte_ (k := p) (by have := HLP.out; have := HP5.out; omega)
          subst hA11
          have hU11' : q11 < 256 := hU11
          have hxr11 := xor_u8_nat q11 y hU11' HY8.out
          obtain ⟨z11, hz11⟩ : ∃ z, q11 ^^^ y = z := ⟨_, rfl⟩
          have hzb : z11 < 256 := by rw [← hz11]; exact Nat.xor_lt_two_pow (n := 8) hU11' HY8.out
          rw [hz11] at hxr11
          have hset := OP10.out.drew_.setByte_ (j := p) (by have := HLP.out; have := HP5.out; omega) (x := z11) hzb
          obtain ⟨P1, hM11⟩ : ∃ M, P.set p z11 = M := ⟨_, rfl⟩
          obtain ⟨V11, hV11⟩ : ∃ V, V10.drew.setCell ⟨gP, p, none⟩ (.int .u8 (z11 : Nat)) = V := ⟨_, rfl⟩
          have HLP1 : Hid (P1.length = 512) := by unfold Hid; rw [← hM11, List.length_set]; exact HLP.out
          have HQ11 := Lib.hid hq11
          have HZ11 := Lib.hid hz11
          have HZ811 := Lib.hid hzb
          have HM11 := Lib.hid hM11
          have HBG11 := Lib.hid hbg11
          have hgl : gP < w3.heap.size := HPB.out gP rfl
          have OQ11 : Hid (OwnV V11 Y.heap.size (.slice (some ⟨gQ, 0, none⟩) 512 c4) Q) := OQ10.out.drew_.of_block (fun k hk => by
            have h1 := (OQ10.out.lt_ k hk).1
            have h2 := gY.out
            rw [← hV11]
            exact setCell_block _ _ _ _ _ (by omega))
          have OP11 : Hid (OwnV V11 W.heap.size (.slice (some ⟨gP, 0, none⟩) 512 c1) P1) := by
            unfold Hid; rw [← hV11, ← hM11]; exact hset.1
          have HB11 : Hid (Below w.heap.size w V11) := by
            unfold Hid; rw [← hV11]; exact HB10.out.drew.setCell (p := ⟨gP, p, none⟩) (show w.heap.size ≤ gP from (by have := HG1.out; have := HG2.out; have := HG3.out; have := HBG11.out; omega)) _
          have RR11 : Hid (Rw V11 w.heap.size 24 D) := by
            unfold Hid; rw [← hV11]; exact RR10.out.drew.setOther (by have := HG1.out; have := HG2.out; have := HG3.out; have := HBG11.out; omega) _ _
          have RS11 : Hid (Rw V11 W0.heap.size 24 S1) := by
            unfold Hid; rw [← hV11]; exact RS10.out.drew.setOther (by have := HG1.out; have := HG2.out; have := HG3.out; have := HBG11.out; omega) _ _
          have RX11 : Hid (Rw V11 w3.heap.size 24 D) := by
            unfold Hid; rw [← hV11]; exact RX10.out.drew.setOther (by omega) _ _
          clear hU11 hU11' hzb hset hM11 hq11 hz11 hbg11
          clear hgl
          have HPK11 : Hid (Rt.pickE P1 Q = (s1, 0)) := by
            unfold Hid
            rw [← HM11.out]
            refine (HBK2.out p z11 HP5.out HZ811.out).2 ?_
            rw [HQ11.out]
            intro h
            injection h with h
            have h2 := HZ11.out
            rw [← h] at h2
            have h3 := congrArg (q11 ^^^ ·) h2
            simp only [← Nat.xor_assoc, Nat.xor_self, Nat.zero_xor] at h3
            exact HY0.out h3
          have C12 := Lib.hid (prtpick_any _ _ P1 Q _ _ V11 OP11.out.form_ OQ11.out.form_ (Nat.le_refl _) (Nat.le_refl _))
          rw [HPK11.out] at C12
          have g3 := G3.out
          have g4 := G4.out
          have g5 := G5.out
          go_wp2_with (first
            | (refine wpList_store_row rfl _ _ _ rfl w3.heap.size D rfl rfl 24 S1 RXo.out vsD hDS.symm voD ?_; rw [hZ9])
            | (refine wpList_load_row_onT (by rfl) _ _ rfl w3.heap.size rfl 24 D (0, 0) _ RX9.out Try.underlying24 rfl (by rw [vsD]) ?_)
            | (refine wpList_load_row_onT (by rfl) _ _ rfl w.heap.size rfl 24 D (0, 0) _ RR9.out Try.underlying24 rfl (by rw [vsD]) ?_)
            | (refine wpList_load_row_onT (by rfl) _ _ rfl W0.heap.size rfl 24 S1 (0, 0) _ RS9.out Try.underlying24 rfl (by rw [vsS]) ?_))
          clear hZ9 RXo
          go_still_tail 15, (by kernel_rfl)
          change wpList _ _ _ _ _ Z9.drew
          go_wp2_with (fail)
          go_still_tail 15, (by kernel_rfl)
          change wpList _ _ _ _ _ V10.drew
          go_wp2_with (fail)
          clear g3 g4 g5
          refine (C12.out).mono ?_
          rintro e v12 ⟨rfl, -, b12⟩
          rw [HDS.out]
          obtain ⟨Z12, hZ12⟩ : ∃ Z, v12.setRow w3.heap.size S1 = Z := ⟨_, rfl⟩
          have RXo := Lib.hid (RX11.out.below b12 RX11.out.lt)
          have HB12 : Hid (Below w.heap.size w Z12) := by
            unfold Hid; rw [← hZ12]; exact below_setRow (HB11.out.trans (b12.mono HB11.out.size)) (by have := HG1.out; have := HG2.out; have := gX.out; omega) _
          have OP12 : Hid (OwnV Z12 W.heap.size (.slice (some ⟨gP, 0, none⟩) 512 c1) P1) := (OP11.out.below_ b12 (Nat.le_refl _)).of_block (fun k hk => by
            have h1 := HPB.out k hk
            rw [← hZ12]
            exact setRow_other _ _ _ _ (by omega))
          have OQ12 : Hid (OwnV Z12 Y.heap.size (.slice (some ⟨gQ, 0, none⟩) 512 c4) Q) := (OQ11.out.below_ b12 (Nat.le_refl _)).of_block (fun k hk => by
            have h1 := (OQ11.out.lt_ k hk).1
            have h2 := gY.out
            rw [← hZ12]
            exact setRow_other _ _ _ _ (by omega))
          have RR12 : Hid (Rw Z12 w.heap.size 24 D) := by
            unfold Hid; rw [← hZ12]; exact (RR11.out.below b12 RR11.out.lt).rowOther (by have := HG3.out; have := HG2.out; have := gX.out; omega) _
          have RS12 : Hid (Rw Z12 W0.heap.size 24 S1) := by
            unfold Hid; rw [← hZ12]; exact (RS11.out.below b12 RS11.out.lt).rowOther (by have := HG2.out; have := gX.out; omega) _
          have RX12 : Hid (Rw Z12 w3.heap.size 24 S1) := by
            unfold Hid; rw [← hZ12]; exact RXo.out.row _
          clear C12 b12 HB11 OP11 OQ11 RR11 RX11 RS11
          have C13 := Lib.hid (lives_rt Z12)
          go_wp2_with (first
            | (refine wpList_store_row rfl _ _ _ rfl w3.heap.size S1 rfl rfl 24 D RXo.out vsS hDS voS ?_; rw [hZ12])
            | (refine wpList_load_row_onT (by rfl) _ _ rfl w3.heap.size rfl 24 S1 (0, 0) _ RX12.out Try.underlying24 rfl (by rw [vsS]) ?_)
            | (refine wpList_load_row_onT (by rfl) _ _ rfl w.heap.size rfl 24 D (0, 0) _ RR12.out Try.underlying24 rfl (by rw [vsD]) ?_)
            | (refine wpList_load_row_onT (by rfl) _ _ rfl W0.heap.size rfl 24 S1 (0, 0) _ RS12.out Try.underlying24 rfl (by rw [vsS]) ?_))
          refine (C13.out).mono ?_
          rintro e w13 ⟨rfl, b13⟩
          have HB13 := Lib.hid (HB12.out.trans (b13.mono HB12.out.size))
          clear C13 b13
          go_wp2
          go_ret
          exact ⟨rfl, HB13.out⟩
      · skip
        have q1 : (((k : Nat) : Int) == 1) = true := by rw [show k = 1 by omega]; rfl
        have HLP := HPL
        have HLQ := HQL
        have HPK : ∀ a b, Rt.pk k a b = Rt.pickE b a := fun a b => by unfold Rt.pk; rw [if_neg hk0]
        rw [HPK] at HBK1
        simp only [HPK] at HBK2
        by_cases hneg : a2 < 0
        · skip
          have G1 : Hid (IntKind.i64.wrap (a2 + 1) = a2 + 1) := by unfold Hid; rw [IntKind.wrap_i64]; omega
          have G2 : Hid (IntKind.i64.wrap (-(a2 + 1)) = -(a2 + 1)) := by unfold Hid; rw [IntKind.wrap_i64]; omega
          obtain ⟨t, ht⟩ : ∃ t : Nat, -(a2 + 1) = (t : Int) := ⟨(-(a2 + 1)).toNat, by omega⟩
          have HT : Hid ((t : Int) ≤ 9223372036854775807) := by unfold Hid; omega
          obtain ⟨p, hp⟩ : ∃ p : Nat, t % 512 = p := ⟨_, rfl⟩
          have hp5 : p < 512 := by omega
          have g3 : (t : Int) % 512 = (p : Int) := by omega
          have g4 : Int.tmod (t : Int) 512 = (p : Int) := by rw [Int.tmod_eq_emod_of_nonneg (by omega)]; exact g3
          have g5 : wrap64 (t : Int) = (t : Int) := by have := HT.out; unfold wrap64; omega
          have g6 : (0 : Int) ≤ (p : Int) := by omega
          have g7 : (p : Int) < 512 := by omega
          have HP5 := Lib.hid hp5
          have G3 := Lib.hid g3
          have G4 := Lib.hid g4
          have G5 := Lib.hid g5
          clear hp hp5 hI2 g3 g4 g5
          have HTT := Lib.hid ht
          clear ht
          have C7 := Lib.hid (prtpick_any _ _ Q P _ _ w6 OQ6.out.form_ OP6.out.form_ (Nat.le_refl _) (Nat.le_refl _))
          rw [HBK1.out] at C7
          go_wp2_with (fail)
          refine (C7.out).mono ?_
          rintro e v7 ⟨rfl, -, b7⟩
          rw [HDS.out]
          obtain ⟨Z7, hZ7⟩ : ∃ Z, v7.setRow w3.heap.size S1 = Z := ⟨_, rfl⟩
          have RXo := Lib.hid (RX6.out.below b7 RX6.out.lt)
          have HB7 : Hid (Below w.heap.size w Z7) := by
            unfold Hid; rw [← hZ7]; exact below_setRow (HB6.out.trans (b7.mono HB6.out.size)) (by have := HG1.out; have := HG2.out; have := gX.out; omega) _
          have OP7 : Hid (OwnV Z7 W.heap.size (.slice A1 512 c1) P) := (OP6.out.below_ b7 (Nat.le_refl _)).of_block (fun k hk => by
            have h1 := HPB.out k hk
            rw [← hZ7]
            exact setRow_other _ _ _ _ (by omega))
          have OQ7 : Hid (OwnV Z7 Y.heap.size (.slice A4 512 c4) Q) := (OQ6.out.below_ b7 (Nat.le_refl _)).of_block (fun k hk => by
            have h1 := (OQ6.out.lt_ k hk).1
            have h2 := gY.out
            rw [← hZ7]
            exact setRow_other _ _ _ _ (by omega))
          have RR7 : Hid (Rw Z7 w.heap.size 24 D) := by
            unfold Hid; rw [← hZ7]; exact (RR6.out.below b7 RR6.out.lt).rowOther (by have := HG3.out; have := HG2.out; have := gX.out; omega) _
          have RS7 : Hid (Rw Z7 W0.heap.size 24 S1) := by
            unfold Hid; rw [← hZ7]; exact (RS6.out.below b7 RS6.out.lt).rowOther (by have := HG2.out; have := gX.out; omega) _
          have RX7 : Hid (Rw Z7 w3.heap.size 24 S1) := by
            unfold Hid; rw [← hZ7]; exact RXo.out.row _
          clear C7 b7 HB6 OP6 OQ6 RR6 RX6 RS6
          obtain ⟨gQ, q8, hA8, -, hbg8, hU8, hq8, hcl8, hfr8⟩ := OQ7.out.byte_ (k := p) (by have := HLQ.out; have := HP5.out; omega)
          subst hA8
          have hU8' : q8 < 256 := hU8
          have hxr8 := xor_u8_nat q8 y hU8' HY8.out
          obtain ⟨z8, hz8⟩ : ∃ z, q8 ^^^ y = z := ⟨_, rfl⟩
          have hzb : z8 < 256 := by rw [← hz8]; exact Nat.xor_lt_two_pow (n := 8) hU8' HY8.out
          rw [hz8] at hxr8
          have hset := OQ7.out.drew_.setByte_ (j := p) (by have := HLQ.out; have := HP5.out; omega) (x := z8) hzb
          obtain ⟨Q1, hM8⟩ : ∃ M, Q.set p z8 = M := ⟨_, rfl⟩
          obtain ⟨V8, hV8⟩ : ∃ V, Z7.drew.setCell ⟨gQ, p, none⟩ (.int .u8 (z8 : Nat)) = V := ⟨_, rfl⟩
          have HLQ1 : Hid (Q1.length = 512) := by unfold Hid; rw [← hM8, List.length_set]; exact HLQ.out
          have HQ8 := Lib.hid hq8
          have HZ8 := Lib.hid hz8
          have HZ88 := Lib.hid hzb
          have HM8 := Lib.hid hM8
          have HBG8 := Lib.hid hbg8
          have OP8 : Hid (OwnV V8 W.heap.size (.slice A1 512 c1) P) := OP7.out.drew_.of_block (fun k hk => by
            have h1 := HPB.out k hk
            have h2 := gY.out
            have h3 := HBG8.out
            rw [← hV8]
            exact setCell_block _ _ _ _ _ (by omega))
          have OQ8 : Hid (OwnV V8 Y.heap.size (.slice (some ⟨gQ, 0, none⟩) 512 c4) Q1) := by
            unfold Hid; rw [← hV8, ← hM8]; exact hset.1
          have HB8 : Hid (Below w.heap.size w V8) := by
            unfold Hid; rw [← hV8]; exact HB7.out.drew.setCell (p := ⟨gQ, p, none⟩) (show w.heap.size ≤ gQ from (by have := HG1.out; have := HG2.out; have := HG3.out; have := HBG8.out; have := gX.out; have := gY.out; omega)) _
          have RR8 : Hid (Rw V8 w.heap.size 24 D) := by
            unfold Hid; rw [← hV8]; exact RR7.out.drew.setOther (by have := HG1.out; have := HG2.out; have := HG3.out; have := HBG8.out; have := gX.out; have := gY.out; omega) _ _
          have RS8 : Hid (Rw V8 W0.heap.size 24 S1) := by
            unfold Hid; rw [← hV8]; exact RS7.out.drew.setOther (by have := HG1.out; have := HG2.out; have := HG3.out; have := HBG8.out; have := gX.out; have := gY.out; omega) _ _
          have RX8 : Hid (Rw V8 w3.heap.size 24 S1) := by
            unfold Hid; rw [← hV8]; exact RX7.out.drew.setOther (by have := HG1.out; have := HG2.out; have := HG3.out; have := HBG8.out; have := gX.out; have := gY.out; omega) _ _
          clear hU8 hU8' hzb hset hM8 hq8 hz8 hbg8
          have HPK8 : Hid (Rt.pickE Q1 P = (r0, 0)) := by
            unfold Hid
            rw [← HM8.out]
            refine (HBK2.out p z8 HP5.out HZ88.out).1 ?_
            rw [HQ8.out]
            intro h
            injection h with h
            have h2 := HZ8.out
            rw [← h] at h2
            have h3 := congrArg (q8 ^^^ ·) h2
            simp only [← Nat.xor_assoc, Nat.xor_self, Nat.zero_xor] at h3
            exact HY0.out h3
          have C9 := Lib.hid (prtpick_any _ _ Q1 P _ _ V8 OQ8.out.form_ OP8.out.form_ (Nat.le_refl _) (Nat.le_refl _))
          rw [HPK8.out] at C9
          have hor := HOR.out
          have g3 := G3.out
          have g4 := G4.out
          have g5 := G5.out
          have g1 := G1.out
          have g2 := G2.out
          have ht := HTT.out
          go_wp2_with (first
            | (refine wpList_store_row rfl _ _ _ rfl w3.heap.size S1 rfl rfl 24 D RXo.out vsS hDS voS ?_; rw [hZ7])
            | (refine wpList_load_row_onT (by rfl) _ _ rfl w3.heap.size rfl 24 S1 (0, 0) _ RX7.out Try.underlying24 rfl (by rw [vsS]) ?_)
            | (refine wpList_load_row_onT (by rfl) _ _ rfl w.heap.size rfl 24 D (0, 0) _ RR7.out Try.underlying24 rfl (by rw [vsD]) ?_)
            | (refine wpList_load_row_onT (by rfl) _ _ rfl W0.heap.size rfl 24 S1 (0, 0) _ RS7.out Try.underlying24 rfl (by rw [vsS]) ?_))
          clear hZ7 RXo
          go_still_tail 15, (by kernel_rfl)
          change wpList _ _ _ _ _ Z7.drew
          go_wp2_with (fail)
          clear hor g3 g4 g5 g1 g2 ht
          refine (C9.out).mono ?_
          rintro e v9 ⟨rfl, -, b9⟩
          rw [HDD.out]
          obtain ⟨Z9, hZ9⟩ : ∃ Z, v9.setRow w3.heap.size D = Z := ⟨_, rfl⟩
          have RXo := Lib.hid (RX8.out.below b9 RX8.out.lt)
          have HB9 : Hid (Below w.heap.size w Z9) := by
            unfold Hid; rw [← hZ9]; exact below_setRow (HB8.out.trans (b9.mono HB8.out.size)) (by have := HG1.out; have := HG2.out; have := gX.out; omega) _
          have OP9 : Hid (OwnV Z9 W.heap.size (.slice A1 512 c1) P) := (OP8.out.below_ b9 (Nat.le_refl _)).of_block (fun k hk => by
            have h1 := HPB.out k hk
            rw [← hZ9]
            exact setRow_other _ _ _ _ (by omega))
          have OQ9 : Hid (OwnV Z9 Y.heap.size (.slice (some ⟨gQ, 0, none⟩) 512 c4) Q1) := (OQ8.out.below_ b9 (Nat.le_refl _)).of_block (fun k hk => by
            have h1 := (OQ8.out.lt_ k hk).1
            have h2 := gY.out
            rw [← hZ9]
            exact setRow_other _ _ _ _ (by omega))
          have RR9 : Hid (Rw Z9 w.heap.size 24 D) := by
            unfold Hid; rw [← hZ9]; exact (RR8.out.below b9 RR8.out.lt).rowOther (by have := HG3.out; have := HG2.out; have := gX.out; omega) _
          have RS9 : Hid (Rw Z9 W0.heap.size 24 S1) := by
            unfold Hid; rw [← hZ9]; exact (RS8.out.below b9 RS8.out.lt).rowOther (by have := HG2.out; have := gX.out; omega) _
          have RX9 : Hid (Rw Z9 w3.heap.size 24 D) := by
            unfold Hid; rw [← hZ9]; exact RXo.out.row _
          clear C9 b9 HB8 OP8 OQ8 RR8 RX8 RS8
          obtain ⟨g', q10, hA10, -, hbg10, hU10, hq10, hcl10, hfr10⟩ := OQ9.out.byte_ (k := p) (by have := HLQ1.out; have := HP5.out; omega)
          obtain rfl : gQ = g' := by simpa using hA10
          clear hA10
          have hU10' : q10 < 256 := hU10
          have hxr10 := xor_u8_nat q10 y hU10' HY8.out
          obtain ⟨z10, hz10⟩ : ∃ z, q10 ^^^ y = z := ⟨_, rfl⟩
          have hzb : z10 < 256 := by rw [← hz10]; exact Nat.xor_lt_two_pow (n := 8) hU10' HY8.out
          rw [hz10] at hxr10
          have hset := OQ9.out.drew_.setByte_ (j := p) (by have := HLQ1.out; have := HP5.out; omega) (x := z10) hzb
          obtain ⟨Q2, hM10⟩ : ∃ M, Q1.set p z10 = M := ⟨_, rfl⟩
          obtain ⟨V10, hV10⟩ : ∃ V, Z9.drew.setCell ⟨gQ, p, none⟩ (.int .u8 (z10 : Nat)) = V := ⟨_, rfl⟩
          have HLQ2 : Hid (Q2.length = 512) := by unfold Hid; rw [← hM10, List.length_set]; exact HLQ1.out
          have HQ10 := Lib.hid hq10
          have HZ10 := Lib.hid hz10
          have HZ810 := Lib.hid hzb
          have HM10 := Lib.hid hM10
          have HBG10 := Lib.hid hbg10
          have OP10 : Hid (OwnV V10 W.heap.size (.slice A1 512 c1) P) := OP9.out.drew_.of_block (fun k hk => by
            have h1 := HPB.out k hk
            have h2 := gY.out
            have h3 := HBG10.out
            rw [← hV10]
            exact setCell_block _ _ _ _ _ (by omega))
          have OQ10 : Hid (OwnV V10 Y.heap.size (.slice (some ⟨gQ, 0, none⟩) 512 c4) Q2) := by
            unfold Hid; rw [← hV10, ← hM10]; exact hset.1
          have HB10 : Hid (Below w.heap.size w V10) := by
            unfold Hid; rw [← hV10]; exact HB9.out.drew.setCell (p := ⟨gQ, p, none⟩) (show w.heap.size ≤ gQ from (by have := HG1.out; have := HG2.out; have := HG3.out; have := HBG10.out; have := gX.out; have := gY.out; omega)) _
          have RR10 : Hid (Rw V10 w.heap.size 24 D) := by
            unfold Hid; rw [← hV10]; exact RR9.out.drew.setOther (by have := HG1.out; have := HG2.out; have := HG3.out; have := HBG10.out; have := gX.out; have := gY.out; omega) _ _
          have RS10 : Hid (Rw V10 W0.heap.size 24 S1) := by
            unfold Hid; rw [← hV10]; exact RS9.out.drew.setOther (by have := HG1.out; have := HG2.out; have := HG3.out; have := HBG10.out; have := gX.out; have := gY.out; omega) _ _
          have RX10 : Hid (Rw V10 w3.heap.size 24 D) := by
            unfold Hid; rw [← hV10]; exact RX9.out.drew.setOther (by have := HG1.out; have := HG2.out; have := HG3.out; have := HBG10.out; have := gX.out; have := gY.out; omega) _ _
          clear hU10 hU10' hzb hset hM10 hq10 hz10 hbg10
          have HQQ : Q2 = Q := by
            have e1 := HQ10.out
            rw [← HM8.out, List.getElem?_set_self (by have := HLQ.out; have := HP5.out; omega)] at e1
            injection e1 with e1
            have e2 : z10 = q8 := by rw [← HZ10.out, ← e1, ← HZ8.out, Nat.xor_assoc, Nat.xor_self, Nat.xor_zero]
            rw [← HM10.out, ← HM8.out, List.set_set, e2]
            exact Rt.set_same HQ8.out
          rw [HQQ] at OQ10
          obtain ⟨gP, q11, hA11, -, hbg11, hU11, hq11, hcl11, hfr11⟩ := OP10.out.byte_ (k := p) (by have := HLP.out; have := HP5.out; omega)
          subst hA11
          have hU11' : q11 < 256 := hU11
          have hxr11 := xor_u8_nat q11 y hU11' HY8.out
          obtain ⟨z11, hz11⟩ : ∃ z, q11 ^^^ y = z := ⟨_, rfl⟩
          have hzb : z11 < 256 := by rw [← hz11]; exact Nat.xor_lt_two_pow (n := 8) hU11' HY8.out
          rw [hz11] at hxr11
          have hset := OP10.out.drew_.setByte_ (j := p) (by have := HLP.out; have := HP5.out; omega) (x := z11) hzb
          obtain ⟨P1, hM11⟩ : ∃ M, P.set p z11 = M := ⟨_, rfl⟩
          obtain ⟨V11, hV11⟩ : ∃ V, V10.drew.setCell ⟨gP, p, none⟩ (.int .u8 (z11 : Nat)) = V := ⟨_, rfl⟩
          have HLP1 : Hid (P1.length = 512) := by unfold Hid; rw [← hM11, List.length_set]; exact HLP.out
          have HQ11 := Lib.hid hq11
          have HZ11 := Lib.hid hz11
          have HZ811 := Lib.hid hzb
          have HM11 := Lib.hid hM11
          have HBG11 := Lib.hid hbg11
          have hgl : gP < w3.heap.size := HPB.out gP rfl
          have OQ11 : Hid (OwnV V11 Y.heap.size (.slice (some ⟨gQ, 0, none⟩) 512 c4) Q) := OQ10.out.drew_.of_block (fun k hk => by
            have h1 := (OQ10.out.lt_ k hk).1
            have h2 := gY.out
            rw [← hV11]
            exact setCell_block _ _ _ _ _ (by omega))
          have OP11 : Hid (OwnV V11 W.heap.size (.slice (some ⟨gP, 0, none⟩) 512 c1) P1) := by
            unfold Hid; rw [← hV11, ← hM11]; exact hset.1
          have HB11 : Hid (Below w.heap.size w V11) := by
            unfold Hid; rw [← hV11]; exact HB10.out.drew.setCell (p := ⟨gP, p, none⟩) (show w.heap.size ≤ gP from (by have := HG1.out; have := HG2.out; have := HG3.out; have := HBG11.out; omega)) _
          have RR11 : Hid (Rw V11 w.heap.size 24 D) := by
            unfold Hid; rw [← hV11]; exact RR10.out.drew.setOther (by have := HG1.out; have := HG2.out; have := HG3.out; have := HBG11.out; omega) _ _
          have RS11 : Hid (Rw V11 W0.heap.size 24 S1) := by
            unfold Hid; rw [← hV11]; exact RS10.out.drew.setOther (by have := HG1.out; have := HG2.out; have := HG3.out; have := HBG11.out; omega) _ _
          have RX11 : Hid (Rw V11 w3.heap.size 24 D) := by
            unfold Hid; rw [← hV11]; exact RX10.out.drew.setOther (by omega) _ _
          clear hU11 hU11' hzb hset hM11 hq11 hz11 hbg11
          clear hgl
          have HPK11 : Hid (Rt.pickE Q P1 = (s1, 0)) := by
            unfold Hid
            rw [← HM11.out]
            refine (HBK2.out p z11 HP5.out HZ811.out).2 ?_
            rw [HQ11.out]
            intro h
            injection h with h
            have h2 := HZ11.out
            rw [← h] at h2
            have h3 := congrArg (q11 ^^^ ·) h2
            simp only [← Nat.xor_assoc, Nat.xor_self, Nat.zero_xor] at h3
            exact HY0.out h3
          have C12 := Lib.hid (prtpick_any _ _ Q P1 _ _ V11 OQ11.out.form_ OP11.out.form_ (Nat.le_refl _) (Nat.le_refl _))
          rw [HPK11.out] at C12
          have g3 := G3.out
          have g4 := G4.out
          have g5 := G5.out
          go_wp2_with (first
            | (refine wpList_store_row rfl _ _ _ rfl w3.heap.size D rfl rfl 24 S1 RXo.out vsD hDS.symm voD ?_; rw [hZ9])
            | (refine wpList_load_row_onT (by rfl) _ _ rfl w3.heap.size rfl 24 D (0, 0) _ RX9.out Try.underlying24 rfl (by rw [vsD]) ?_)
            | (refine wpList_load_row_onT (by rfl) _ _ rfl w.heap.size rfl 24 D (0, 0) _ RR9.out Try.underlying24 rfl (by rw [vsD]) ?_)
            | (refine wpList_load_row_onT (by rfl) _ _ rfl W0.heap.size rfl 24 S1 (0, 0) _ RS9.out Try.underlying24 rfl (by rw [vsS]) ?_))
          clear hZ9 RXo
          go_still_tail 15, (by kernel_rfl)
          change wpList _ _ _ _ _ Z9.drew
          go_wp2_with (fail)
          go_still_tail 15, (by kernel_rfl)
          change wpList _ _ _ _ _ V10.drew
          go_wp2_with (fail)
          clear g3 g4 g5
          refine (C12.out).mono ?_
          rintro e v12 ⟨rfl, -, b12⟩
          rw [HDS.out]
          obtain ⟨Z12, hZ12⟩ : ∃ Z, v12.setRow w3.heap.size S1 = Z := ⟨_, rfl⟩
          have RXo := Lib.hid (RX11.out.below b12 RX11.out.lt)
          have HB12 : Hid (Below w.heap.size w Z12) := by
            unfold Hid; rw [← hZ12]; exact below_setRow (HB11.out.trans (b12.mono HB11.out.size)) (by have := HG1.out; have := HG2.out; have := gX.out; omega) _
          have OP12 : Hid (OwnV Z12 W.heap.size (.slice (some ⟨gP, 0, none⟩) 512 c1) P1) := (OP11.out.below_ b12 (Nat.le_refl _)).of_block (fun k hk => by
            have h1 := HPB.out k hk
            rw [← hZ12]
            exact setRow_other _ _ _ _ (by omega))
          have OQ12 : Hid (OwnV Z12 Y.heap.size (.slice (some ⟨gQ, 0, none⟩) 512 c4) Q) := (OQ11.out.below_ b12 (Nat.le_refl _)).of_block (fun k hk => by
            have h1 := (OQ11.out.lt_ k hk).1
            have h2 := gY.out
            rw [← hZ12]
            exact setRow_other _ _ _ _ (by omega))
          have RR12 : Hid (Rw Z12 w.heap.size 24 D) := by
            unfold Hid; rw [← hZ12]; exact (RR11.out.below b12 RR11.out.lt).rowOther (by have := HG3.out; have := HG2.out; have := gX.out; omega) _
          have RS12 : Hid (Rw Z12 W0.heap.size 24 S1) := by
            unfold Hid; rw [← hZ12]; exact (RS11.out.below b12 RS11.out.lt).rowOther (by have := HG2.out; have := gX.out; omega) _
          have RX12 : Hid (Rw Z12 w3.heap.size 24 S1) := by
            unfold Hid; rw [← hZ12]; exact RXo.out.row _
          clear C12 b12 HB11 OP11 OQ11 RR11 RX11 RS11
          have C13 := Lib.hid (lives_rt Z12)
          go_wp2_with (first
            | (refine wpList_store_row rfl _ _ _ rfl w3.heap.size S1 rfl rfl 24 D RXo.out vsS hDS voS ?_; rw [hZ12])
            | (refine wpList_load_row_onT (by rfl) _ _ rfl w3.heap.size rfl 24 S1 (0, 0) _ RX12.out Try.underlying24 rfl (by rw [vsS]) ?_)
            | (refine wpList_load_row_onT (by rfl) _ _ rfl w.heap.size rfl 24 D (0, 0) _ RR12.out Try.underlying24 rfl (by rw [vsD]) ?_)
            | (refine wpList_load_row_onT (by rfl) _ _ rfl W0.heap.size rfl 24 S1 (0, 0) _ RS12.out Try.underlying24 rfl (by rw [vsS]) ?_))
          refine (C13.out).mono ?_
          rintro e w13 ⟨rfl, b13⟩
          have HB13 := Lib.hid (HB12.out.trans (b13.mono HB12.out.size))
          clear C13 b13
          go_wp2
          go_ret
          exact ⟨rfl, HB13.out⟩
        · skip
          obtain ⟨t, ht⟩ : ∃ t : Nat, a2 = (t : Int) := ⟨a2.toNat, by omega⟩
          subst ht
          have HT : Hid ((t : Int) ≤ 9223372036854775807) := by unfold Hid; omega
          obtain ⟨p, hp⟩ : ∃ p : Nat, t % 512 = p := ⟨_, rfl⟩
          have hp5 : p < 512 := by omega
          have g3 : (t : Int) % 512 = (p : Int) := by omega
          have g4 : Int.tmod (t : Int) 512 = (p : Int) := by rw [Int.tmod_eq_emod_of_nonneg (by omega)]; exact g3
          have g5 : wrap64 (t : Int) = (t : Int) := by have := HT.out; unfold wrap64; omega
          have g6 : (0 : Int) ≤ (p : Int) := by omega
          have g7 : (p : Int) < 512 := by omega
          have HP5 := Lib.hid hp5
          have G3 := Lib.hid g3
          have G4 := Lib.hid g4
          have G5 := Lib.hid g5
          clear hp hp5 hI2 g3 g4 g5
          have C7 := Lib.hid (prtpick_any _ _ Q P _ _ w6 OQ6.out.form_ OP6.out.form_ (Nat.le_refl _) (Nat.le_refl _))
          rw [HBK1.out] at C7
          go_wp2_with (fail)
          refine (C7.out).mono ?_
          rintro e v7 ⟨rfl, -, b7⟩
          rw [HDS.out]
          obtain ⟨Z7, hZ7⟩ : ∃ Z, v7.setRow w3.heap.size S1 = Z := ⟨_, rfl⟩
          have RXo := Lib.hid (RX6.out.below b7 RX6.out.lt)
          have HB7 : Hid (Below w.heap.size w Z7) := by
            unfold Hid; rw [← hZ7]; exact below_setRow (HB6.out.trans (b7.mono HB6.out.size)) (by have := HG1.out; have := HG2.out; have := gX.out; omega) _
          have OP7 : Hid (OwnV Z7 W.heap.size (.slice A1 512 c1) P) := (OP6.out.below_ b7 (Nat.le_refl _)).of_block (fun k hk => by
            have h1 := HPB.out k hk
            rw [← hZ7]
            exact setRow_other _ _ _ _ (by omega))
          have OQ7 : Hid (OwnV Z7 Y.heap.size (.slice A4 512 c4) Q) := (OQ6.out.below_ b7 (Nat.le_refl _)).of_block (fun k hk => by
            have h1 := (OQ6.out.lt_ k hk).1
            have h2 := gY.out
            rw [← hZ7]
            exact setRow_other _ _ _ _ (by omega))
          have RR7 : Hid (Rw Z7 w.heap.size 24 D) := by
            unfold Hid; rw [← hZ7]; exact (RR6.out.below b7 RR6.out.lt).rowOther (by have := HG3.out; have := HG2.out; have := gX.out; omega) _
          have RS7 : Hid (Rw Z7 W0.heap.size 24 S1) := by
            unfold Hid; rw [← hZ7]; exact (RS6.out.below b7 RS6.out.lt).rowOther (by have := HG2.out; have := gX.out; omega) _
          have RX7 : Hid (Rw Z7 w3.heap.size 24 S1) := by
            unfold Hid; rw [← hZ7]; exact RXo.out.row _
          clear C7 b7 HB6 OP6 OQ6 RR6 RX6 RS6
          obtain ⟨gQ, q8, hA8, -, hbg8, hU8, hq8, hcl8, hfr8⟩ := OQ7.out.byte_ (k := p) (by have := HLQ.out; have := HP5.out; omega)
          subst hA8
          have hU8' : q8 < 256 := hU8
          have hxr8 := xor_u8_nat q8 y hU8' HY8.out
          obtain ⟨z8, hz8⟩ : ∃ z, q8 ^^^ y = z := ⟨_, rfl⟩
          have hzb : z8 < 256 := by rw [← hz8]; exact Nat.xor_lt_two_pow (n := 8) hU8' HY8.out
          rw [hz8] at hxr8
          have hset := OQ7.out.drew_.setByte_ (j := p) (by have := HLQ.out; have := HP5.out; omega) (x := z8) hzb
          obtain ⟨Q1, hM8⟩ : ∃ M, Q.set p z8 = M := ⟨_, rfl⟩
          obtain ⟨V8, hV8⟩ : ∃ V, Z7.drew.setCell ⟨gQ, p, none⟩ (.int .u8 (z8 : Nat)) = V := ⟨_, rfl⟩
          have HLQ1 : Hid (Q1.length = 512) := by unfold Hid; rw [← hM8, List.length_set]; exact HLQ.out
          have HQ8 := Lib.hid hq8
          have HZ8 := Lib.hid hz8
          have HZ88 := Lib.hid hzb
          have HM8 := Lib.hid hM8
          have HBG8 := Lib.hid hbg8
          have OP8 : Hid (OwnV V8 W.heap.size (.slice A1 512 c1) P) := OP7.out.drew_.of_block (fun k hk => by
            have h1 := HPB.out k hk
            have h2 := gY.out
            have h3 := HBG8.out
            rw [← hV8]
            exact setCell_block _ _ _ _ _ (by omega))
          have OQ8 : Hid (OwnV V8 Y.heap.size (.slice (some ⟨gQ, 0, none⟩) 512 c4) Q1) := by
            unfold Hid; rw [← hV8, ← hM8]; exact hset.1
          have HB8 : Hid (Below w.heap.size w V8) := by
            unfold Hid; rw [← hV8]; exact HB7.out.drew.setCell (p := ⟨gQ, p, none⟩) (show w.heap.size ≤ gQ from (by have := HG1.out; have := HG2.out; have := HG3.out; have := HBG8.out; have := gX.out; have := gY.out; omega)) _
          have RR8 : Hid (Rw V8 w.heap.size 24 D) := by
            unfold Hid; rw [← hV8]; exact RR7.out.drew.setOther (by have := HG1.out; have := HG2.out; have := HG3.out; have := HBG8.out; have := gX.out; have := gY.out; omega) _ _
          have RS8 : Hid (Rw V8 W0.heap.size 24 S1) := by
            unfold Hid; rw [← hV8]; exact RS7.out.drew.setOther (by have := HG1.out; have := HG2.out; have := HG3.out; have := HBG8.out; have := gX.out; have := gY.out; omega) _ _
          have RX8 : Hid (Rw V8 w3.heap.size 24 S1) := by
            unfold Hid; rw [← hV8]; exact RX7.out.drew.setOther (by have := HG1.out; have := HG2.out; have := HG3.out; have := HBG8.out; have := gX.out; have := gY.out; omega) _ _
          clear hU8 hU8' hzb hset hM8 hq8 hz8 hbg8
          have HPK8 : Hid (Rt.pickE Q1 P = (r0, 0)) := by
            unfold Hid
            rw [← HM8.out]
            refine (HBK2.out p z8 HP5.out HZ88.out).1 ?_
            rw [HQ8.out]
            intro h
            injection h with h
            have h2 := HZ8.out
            rw [← h] at h2
            have h3 := congrArg (q8 ^^^ ·) h2
            simp only [← Nat.xor_assoc, Nat.xor_self, Nat.zero_xor] at h3
            exact HY0.out h3
          have C9 := Lib.hid (prtpick_any _ _ Q1 P _ _ V8 OQ8.out.form_ OP8.out.form_ (Nat.le_refl _) (Nat.le_refl _))
          rw [HPK8.out] at C9
          have hor := HOR.out
          have g3 := G3.out
          have g4 := G4.out
          have g5 := G5.out
          go_wp2_with (first
            | (refine wpList_store_row rfl _ _ _ rfl w3.heap.size S1 rfl rfl 24 D RXo.out vsS hDS voS ?_; rw [hZ7])
            | (refine wpList_load_row_onT (by rfl) _ _ rfl w3.heap.size rfl 24 S1 (0, 0) _ RX7.out Try.underlying24 rfl (by rw [vsS]) ?_)
            | (refine wpList_load_row_onT (by rfl) _ _ rfl w.heap.size rfl 24 D (0, 0) _ RR7.out Try.underlying24 rfl (by rw [vsD]) ?_)
            | (refine wpList_load_row_onT (by rfl) _ _ rfl W0.heap.size rfl 24 S1 (0, 0) _ RS7.out Try.underlying24 rfl (by rw [vsS]) ?_))
          clear hZ7 RXo
          go_still_tail 15, (by kernel_rfl)
          change wpList _ _ _ _ _ Z7.drew
          go_wp2_with (fail)
          clear hor g3 g4 g5
          refine (C9.out).mono ?_
          rintro e v9 ⟨rfl, -, b9⟩
          rw [HDD.out]
          obtain ⟨Z9, hZ9⟩ : ∃ Z, v9.setRow w3.heap.size D = Z := ⟨_, rfl⟩
          have RXo := Lib.hid (RX8.out.below b9 RX8.out.lt)
          have HB9 : Hid (Below w.heap.size w Z9) := by
            unfold Hid; rw [← hZ9]; exact below_setRow (HB8.out.trans (b9.mono HB8.out.size)) (by have := HG1.out; have := HG2.out; have := gX.out; omega) _
          have OP9 : Hid (OwnV Z9 W.heap.size (.slice A1 512 c1) P) := (OP8.out.below_ b9 (Nat.le_refl _)).of_block (fun k hk => by
            have h1 := HPB.out k hk
            rw [← hZ9]
            exact setRow_other _ _ _ _ (by omega))
          have OQ9 : Hid (OwnV Z9 Y.heap.size (.slice (some ⟨gQ, 0, none⟩) 512 c4) Q1) := (OQ8.out.below_ b9 (Nat.le_refl _)).of_block (fun k hk => by
            have h1 := (OQ8.out.lt_ k hk).1
            have h2 := gY.out
            rw [← hZ9]
            exact setRow_other _ _ _ _ (by omega))
          have RR9 : Hid (Rw Z9 w.heap.size 24 D) := by
            unfold Hid; rw [← hZ9]; exact (RR8.out.below b9 RR8.out.lt).rowOther (by have := HG3.out; have := HG2.out; have := gX.out; omega) _
          have RS9 : Hid (Rw Z9 W0.heap.size 24 S1) := by
            unfold Hid; rw [← hZ9]; exact (RS8.out.below b9 RS8.out.lt).rowOther (by have := HG2.out; have := gX.out; omega) _
          have RX9 : Hid (Rw Z9 w3.heap.size 24 D) := by
            unfold Hid; rw [← hZ9]; exact RXo.out.row _
          clear C9 b9 HB8 OP8 OQ8 RR8 RX8 RS8
          obtain ⟨g', q10, hA10, -, hbg10, hU10, hq10, hcl10, hfr10⟩ := OQ9.out.byte_ (k := p) (by have := HLQ1.out; have := HP5.out; omega)
          obtain rfl : gQ = g' := by simpa using hA10
          clear hA10
          have hU10' : q10 < 256 := hU10
          have hxr10 := xor_u8_nat q10 y hU10' HY8.out
          obtain ⟨z10, hz10⟩ : ∃ z, q10 ^^^ y = z := ⟨_, rfl⟩
          have hzb : z10 < 256 := by rw [← hz10]; exact Nat.xor_lt_two_pow (n := 8) hU10' HY8.out
          rw [hz10] at hxr10
          have hset := OQ9.out.drew_.setByte_ (j := p) (by have := HLQ1.out; have := HP5.out; omega) (x := z10) hzb
          obtain ⟨Q2, hM10⟩ : ∃ M, Q1.set p z10 = M := ⟨_, rfl⟩
          obtain ⟨V10, hV10⟩ : ∃ V, Z9.drew.setCell ⟨gQ, p, none⟩ (.int .u8 (z10 : Nat)) = V := ⟨_, rfl⟩
          have HLQ2 : Hid (Q2.length = 512) := by unfold Hid; rw [← hM10, List.length_set]; exact HLQ1.out
          have HQ10 := Lib.hid hq10
          have HZ10 := Lib.hid hz10
          have HZ810 := Lib.hid hzb
          have HM10 := Lib.hid hM10
          have HBG10 := Lib.hid hbg10
          have OP10 : Hid (OwnV V10 W.heap.size (.slice A1 512 c1) P) := OP9.out.drew_.of_block (fun k hk => by
            have h1 := HPB.out k hk
            have h2 := gY.out
            have h3 := HBG10.out
            rw [← hV10]
            exact setCell_block _ _ _ _ _ (by omega))
          have OQ10 : Hid (OwnV V10 Y.heap.size (.slice (some ⟨gQ, 0, none⟩) 512 c4) Q2) := by
            unfold Hid; rw [← hV10, ← hM10]; exact hset.1
          have HB10 : Hid (Below w.heap.size w V10) := by
            unfold Hid; rw [← hV10]; exact HB9.out.drew.setCell (p := ⟨gQ, p, none⟩) (show w.heap.size ≤ gQ from (by have := HG1.out; have := HG2.out; have := HG3.out; have := HBG10.out; have := gX.out; have := gY.out; omega)) _
          have RR10 : Hid (Rw V10 w.heap.size 24 D) := by
            unfold Hid; rw [← hV10]; exact RR9.out.drew.setOther (by have := HG1.out; have := HG2.out; have := HG3.out; have := HBG10.out; have := gX.out; have := gY.out; omega) _ _
          have RS10 : Hid (Rw V10 W0.heap.size 24 S1) := by
            unfold Hid; rw [← hV10]; exact RS9.out.drew.setOther (by have := HG1.out; have := HG2.out; have := HG3.out; have := HBG10.out; have := gX.out; have := gY.out; omega) _ _
          have RX10 : Hid (Rw V10 w3.heap.size 24 D) := by
            unfold Hid; rw [← hV10]; exact RX9.out.drew.setOther (by have := HG1.out; have := HG2.out; have := HG3.out; have := HBG10.out; have := gX.out; have := gY.out; omega) _ _
          clear hU10 hU10' hzb hset hM10 hq10 hz10 hbg10
          have HQQ : Q2 = Q := by
            have e1 := HQ10.out
            rw [← HM8.out, List.getElem?_set_self (by have := HLQ.out; have := HP5.out; omega)] at e1
            injection e1 with e1
            have e2 : z10 = q8 := by rw [← HZ10.out, ← e1, ← HZ8.out, Nat.xor_assoc, Nat.xor_self, Nat.xor_zero]
            rw [← HM10.out, ← HM8.out, List.set_set, e2]
            exact Rt.set_same HQ8.out
          rw [HQQ] at OQ10
          obtain ⟨gP, q11, hA11, -, hbg11, hU11, hq11, hcl11, hfr11⟩ := OP10.out.byte_ (k := p) (by have := HLP.out; have := HP5.out; omega)
          subst hA11
          have hU11' : q11 < 256 := hU11
          have hxr11 := xor_u8_nat q11 y hU11' HY8.out
          obtain ⟨z11, hz11⟩ : ∃ z, q11 ^^^ y = z := ⟨_, rfl⟩
          have hzb : z11 < 256 := by rw [← hz11]; exact Nat.xor_lt_two_pow (n := 8) hU11' HY8.out
          rw [hz11] at hxr11
          have hset := OP10.out.drew_.setByte_ (j := p) (by have := HLP.out; have := HP5.out; omega) (x := z11) hzb
          obtain ⟨P1, hM11⟩ : ∃ M, P.set p z11 = M := ⟨_, rfl⟩
          obtain ⟨V11, hV11⟩ : ∃ V, V10.drew.setCell ⟨gP, p, none⟩ (.int .u8 (z11 : Nat)) = V := ⟨_, rfl⟩
          have HLP1 : Hid (P1.length = 512) := by unfold Hid; rw [← hM11, List.length_set]; exact HLP.out
          have HQ11 := Lib.hid hq11
          have HZ11 := Lib.hid hz11
          have HZ811 := Lib.hid hzb
          have HM11 := Lib.hid hM11
          have HBG11 := Lib.hid hbg11
          have hgl : gP < w3.heap.size := HPB.out gP rfl
          have OQ11 : Hid (OwnV V11 Y.heap.size (.slice (some ⟨gQ, 0, none⟩) 512 c4) Q) := OQ10.out.drew_.of_block (fun k hk => by
            have h1 := (OQ10.out.lt_ k hk).1
            have h2 := gY.out
            rw [← hV11]
            exact setCell_block _ _ _ _ _ (by omega))
          have OP11 : Hid (OwnV V11 W.heap.size (.slice (some ⟨gP, 0, none⟩) 512 c1) P1) := by
            unfold Hid; rw [← hV11, ← hM11]; exact hset.1
          have HB11 : Hid (Below w.heap.size w V11) := by
            unfold Hid; rw [← hV11]; exact HB10.out.drew.setCell (p := ⟨gP, p, none⟩) (show w.heap.size ≤ gP from (by have := HG1.out; have := HG2.out; have := HG3.out; have := HBG11.out; omega)) _
          have RR11 : Hid (Rw V11 w.heap.size 24 D) := by
            unfold Hid; rw [← hV11]; exact RR10.out.drew.setOther (by have := HG1.out; have := HG2.out; have := HG3.out; have := HBG11.out; omega) _ _
          have RS11 : Hid (Rw V11 W0.heap.size 24 S1) := by
            unfold Hid; rw [← hV11]; exact RS10.out.drew.setOther (by have := HG1.out; have := HG2.out; have := HG3.out; have := HBG11.out; omega) _ _
          have RX11 : Hid (Rw V11 w3.heap.size 24 D) := by
            unfold Hid; rw [← hV11]; exact RX10.out.drew.setOther (by omega) _ _
          clear hU11 hU11' hzb hset hM11 hq11 hz11 hbg11
          clear hgl
          have HPK11 : Hid (Rt.pickE Q P1 = (s1, 0)) := by
            unfold Hid
            rw [← HM11.out]
            refine (HBK2.out p z11 HP5.out HZ811.out).2 ?_
            rw [HQ11.out]
            intro h
            injection h with h
            have h2 := HZ11.out
            rw [← h] at h2
            have h3 := congrArg (q11 ^^^ ·) h2
            simp only [← Nat.xor_assoc, Nat.xor_self, Nat.zero_xor] at h3
            exact HY0.out h3
          have C12 := Lib.hid (prtpick_any _ _ Q P1 _ _ V11 OQ11.out.form_ OP11.out.form_ (Nat.le_refl _) (Nat.le_refl _))
          rw [HPK11.out] at C12
          have g3 := G3.out
          have g4 := G4.out
          have g5 := G5.out
          go_wp2_with (first
            | (refine wpList_store_row rfl _ _ _ rfl w3.heap.size D rfl rfl 24 S1 RXo.out vsD hDS.symm voD ?_; rw [hZ9])
            | (refine wpList_load_row_onT (by rfl) _ _ rfl w3.heap.size rfl 24 D (0, 0) _ RX9.out Try.underlying24 rfl (by rw [vsD]) ?_)
            | (refine wpList_load_row_onT (by rfl) _ _ rfl w.heap.size rfl 24 D (0, 0) _ RR9.out Try.underlying24 rfl (by rw [vsD]) ?_)
            | (refine wpList_load_row_onT (by rfl) _ _ rfl W0.heap.size rfl 24 S1 (0, 0) _ RS9.out Try.underlying24 rfl (by rw [vsS]) ?_))
          clear hZ9 RXo
          go_still_tail 15, (by kernel_rfl)
          change wpList _ _ _ _ _ Z9.drew
          go_wp2_with (fail)
          go_still_tail 15, (by kernel_rfl)
          change wpList _ _ _ _ _ V10.drew
          go_wp2_with (fail)
          clear g3 g4 g5
          refine (C12.out).mono ?_
          rintro e v12 ⟨rfl, -, b12⟩
          rw [HDS.out]
          obtain ⟨Z12, hZ12⟩ : ∃ Z, v12.setRow w3.heap.size S1 = Z := ⟨_, rfl⟩
          have RXo := Lib.hid (RX11.out.below b12 RX11.out.lt)
          have HB12 : Hid (Below w.heap.size w Z12) := by
            unfold Hid; rw [← hZ12]; exact below_setRow (HB11.out.trans (b12.mono HB11.out.size)) (by have := HG1.out; have := HG2.out; have := gX.out; omega) _
          have OP12 : Hid (OwnV Z12 W.heap.size (.slice (some ⟨gP, 0, none⟩) 512 c1) P1) := (OP11.out.below_ b12 (Nat.le_refl _)).of_block (fun k hk => by
            have h1 := HPB.out k hk
            rw [← hZ12]
            exact setRow_other _ _ _ _ (by omega))
          have OQ12 : Hid (OwnV Z12 Y.heap.size (.slice (some ⟨gQ, 0, none⟩) 512 c4) Q) := (OQ11.out.below_ b12 (Nat.le_refl _)).of_block (fun k hk => by
            have h1 := (OQ11.out.lt_ k hk).1
            have h2 := gY.out
            rw [← hZ12]
            exact setRow_other _ _ _ _ (by omega))
          have RR12 : Hid (Rw Z12 w.heap.size 24 D) := by
            unfold Hid; rw [← hZ12]; exact (RR11.out.below b12 RR11.out.lt).rowOther (by have := HG3.out; have := HG2.out; have := gX.out; omega) _
          have RS12 : Hid (Rw Z12 W0.heap.size 24 S1) := by
            unfold Hid; rw [← hZ12]; exact (RS11.out.below b12 RS11.out.lt).rowOther (by have := HG2.out; have := gX.out; omega) _
          have RX12 : Hid (Rw Z12 w3.heap.size 24 S1) := by
            unfold Hid; rw [← hZ12]; exact RXo.out.row _
          clear C12 b12 HB11 OP11 OQ11 RR11 RX11 RS11
          have C13 := Lib.hid (lives_rt Z12)
          go_wp2_with (first
            | (refine wpList_store_row rfl _ _ _ rfl w3.heap.size S1 rfl rfl 24 D RXo.out vsS hDS voS ?_; rw [hZ12])
            | (refine wpList_load_row_onT (by rfl) _ _ rfl w3.heap.size rfl 24 S1 (0, 0) _ RX12.out Try.underlying24 rfl (by rw [vsS]) ?_)
            | (refine wpList_load_row_onT (by rfl) _ _ rfl w.heap.size rfl 24 D (0, 0) _ RR12.out Try.underlying24 rfl (by rw [vsD]) ?_)
            | (refine wpList_load_row_onT (by rfl) _ _ rfl W0.heap.size rfl 24 S1 (0, 0) _ RS12.out Try.underlying24 rfl (by rw [vsS]) ?_))
          refine (C13.out).mono ?_
          rintro e w13 ⟨rfl, b13⟩
          have HB13 := Lib.hid (HB12.out.trans (b13.mono HB12.out.size))
          clear C13 b13
          go_wp2
          go_ret
          exact ⟨rfl, HB13.out⟩
    · skip
      have hq : ((E2 : Int) != 0) = true := by rw [bne_iff_ne]; omega
      clear hy HBK OP4 RR4 RX4 RS4 OQ4 hrr hss hE2
      have C5 := Lib.hid (lives_rt w4)
      go_wp2_with (fail)
      refine (C5.out).mono ?_
      rintro e w5 ⟨rfl, b5⟩
      have HB5 := Lib.hid (HB4.out.trans (b5.mono HB4.out.size))
      clear C5 b5 HB4
      go_wp2
      go_ret
      exact ⟨rfl, HB5.out⟩
  · skip
    have hq : ((E : Int) != 0) = true := by rw [bne_iff_ne]; omega
    clear hx hy hE hq1 HFS hrr hss
    go_enter Try.func5, Try.ntmps5
    have C1 := Lib.hid (prtput_any r0 W HF.out)
    rw [HDD.out, HX.out] at C1
    go_wp2_with (first
      | (refine wpList_load_row rfl _ _ rfl w.heap.size rfl 24 D (0, 0) _ Fbr_0.out.2 Try.underlying24 rfl (by rw [vsD]) ?_))
    refine (C1.out).mono ?_
    rintro e w1 ⟨A1, c1, rfl, o1, b1⟩
    have HB1 := Lib.hid (HB0.out.trans (b1.mono HB0.out.size))
    have Fbr_1 := Lib.hid ((Fbr_0.out.below_ b1 (Nat.le_refl _)).mono_ b1.size)
    have Fbs_1 := Lib.hid ((Fbs_0.out.below_ b1 (Nat.le_refl _)).mono_ b1.size)
    have Fp_1 := Lib.hid (o1.form_)
    clear C1 b1 HB0 Fbr_0 Fbs_0 o1
    clear Fp_1
    clear Fbr_1
    clear Fbs_1
    have C2 := Lib.hid (lives_rt w1)
    go_wp2_with (fail)
    refine (C2.out).mono ?_
    rintro e w2 ⟨rfl, b2⟩
    have HB2 := Lib.hid (HB1.out.trans (b2.mono HB1.out.size))
    clear C2 b2 HB1
    go_wp2
    go_ret
    exact ⟨rfl, HB2.out⟩

/-! ### From the walk to the row -/
set_option maxRecDepth 100000 in
theorem lifted (os : Os) (started : os.Started) (H : Type) (enc : TypeId × Value → H) :
    ReturnsInHanded {} Try.checked os 5 .any (Rows.rootBackSpec.pre6 enc Try.prog Try.f5 Rows.rootBackRow.domain false) (Rows.rootBackSpec.post enc Try.prog Try.f5 false true false false) := by
  refine returnsInHanded_of_change (C := Try.checked) own started (by kernel_rfl) Try.func5
    (ChangeSpec.witness6 (enc := enc) (C := Try.checked) false ⟨#[], #[.agg #[.int .u64 0, .int .i64 0, .int .i64 0, .int .u64 0, .int .u64 0, .int .i64 0, .int .i64 0], .agg #[.int .u64 0, .int .i64 0, .int .i64 0, .int .u64 0, .int .u64 0, .int .i64 0, .int .i64 0], .int .i64 0, .int .u8 0], []⟩ 8 (by kernel_rfl) (by kernel_rfl) (by kernel_rfl) (by kernel_rfl)) ?_
  intro W base args ds gs before hval0 hW hcnd _
  have hval : ∀ (j : Nat) t v, Try.f5.params[j]? = some t → args[j]? = some v → Value.okWide Try.prog W .any base t v := hval0
  have hW' := hW
  obtain ⟨p, q, hA0, hV, rfl, hfz, hnd⟩ := hW
  have hA : DataW.TrodAll enc Try.prog W 0 (fun _ => true) true Try.f5.params.toList args.toList ds p := hA0
  rw [Try.params5] at hA hval
  obtain ⟨v0, vs0, d0, ds0, p0, q0, hargs, rfl, rfl, h0, r0⟩ := trodAll_cons hA
  obtain ⟨v1, vs1, d1, ds1, p1, q1, rfl, rfl, rfl, h1, r1⟩ := trodAll_cons r0
  obtain ⟨v2, vs2, d2, ds2, p2, q2, rfl, rfl, rfl, h2, r2⟩ := trodAll_cons r1
  obtain ⟨v3, vs3, d3, ds3, p3, q3, rfl, rfl, rfl, h3, r3⟩ := trodAll_cons r2
  obtain ⟨rfl, rfl, rfl⟩ := trodAll_nil r3
  obtain rfl : args = #[v0, v1, v2, v3] := by cases args; simp_all
  obtain ⟨rfl, rfl⟩ := trodVars_none hV
  have k0 := h0
  have lt0 : ∀ x ∈ p0, x.block < W.heap.size := by obtain ⟨m, hm⟩ := k0; exact DataW.trod_lt m _ _ _ hm
  obtain ⟨rt0, rfl, f0⟩ := rt_in (hval 0 24 v0 rfl rfl) h0
  have k1 := h1
  have lt1 : ∀ x ∈ p1, x.block < W.heap.size := by obtain ⟨m, hm⟩ := k1; exact DataW.trod_lt m _ _ _ hm
  obtain ⟨rt1, rfl, f1⟩ := rt_in (hval 1 24 v1 rfl rfl) h1
  obtain ⟨a2, rfl, rfl, rfl, w2⟩ := open_int Try.underlying3 (hval 2 3 v2 rfl rfl) h2
  obtain ⟨a3, rfl, rfl, rfl, w3⟩ := open_int Try.underlying5 (hval 3 5 v3 rfl rfl) h3
  obtain ⟨n3, e3, b3⟩ := u8_nat w3
  subst e3
  clear hA0 hval0
  refine (walk W rt0 f0 rt1 f1 a2 w2 n3 b3).mono fun e W' ⟨he, bel⟩ => ?_
  subst he
  exact ⟨_, rfl, _, _, _, [], _, [], hW', trodAll_mk1 (shut_bool Try.underlying4 _), (trodAll_cons_mk (Below.trod laidOut (by kernel_rfl) (of_decide_eq_true (by kernel_rfl)) k0 bel lt0) (trodAll_cons_mk (Below.trod laidOut (by kernel_rfl) (of_decide_eq_true (by kernel_rfl)) k1 bel lt1) (trodAll_cons_mk (shut_int Try.underlying3 w2) (trodAll_cons_mk (shut_int Try.underlying5 w3) trodAll_mk0)))), rfl, bel.frame _, fun h => by cases h⟩

theorem proved : Rows.RootBackSaid :=
  OpenClaim.holds_of_wide 5 Try.f5 rfl rfl rfl rfl rfl rfl rfl ⟨rfl, rfl, rfl, rfl, rfl⟩ rfl rfl rfl rfl rfl (by kernel_rfl) Try.func5 (by kernel_rfl)
    (of_decide_eq_true (by kernel_rfl)) (by unfold Func.isWrapper; first | (rw [if_pos (by decide +kernel)]; kernel_rfl) | (rw [if_neg (by decide +kernel)]; exact ⟨rfl, rfl⟩))
    (fun os started H enc _ => lifted os started H enc)

end Go.Proofs.Ytoefogmjekcbeaa.rootBack
