/-
  VocabAll: all tokens are gone over, rising, each with its bytes; again, and left in the midst; what is told is new memory, whatever becomes of what was handed in. No condition.
-/
import Derived.Test.YtgkmlcghkkpgpaaFrameV
import Derived.Test.YtgkmlcghkkpgpaaVoLaw
import Derived.Test.YtgkmlcghkkpgpaaSetL
import Derived.Test.YtgkmlcghkkpgpaaVpAll
import Derived.Test.YtgkmlcghkkpgpaaRVoG
namespace Go.Proofs.Ytgkmlcghkkpgpaa.vocabAll
open Go.ChangeShapes Go.WideShapes Go.ChangeAt Go.RowKit
open Go.ChangeMaps (open_string shut_string)
set_option linter.unusedVariables false

set_option maxHeartbeats 2000000 in
set_option maxRecDepth 100000 in
theorem walk (w : World) (v0 : Value) (l0 : List Vo.Pc) (h0 : Lv pK w w.heap.size v0 l0) (a1 : Int) (w1 : (Lit.int .i64 a1).wf = true) :
    Calls Try.prog 7 #[.agg #[v0], .int .i64 a1] w (IsBool true w) := by
  clear w1
  obtain ⟨s, hs⟩ : ∃ s, w.heap.size = s := ⟨_, rfl⟩
  obtain ⟨W, hW⟩ : ∃ X, w.alloc (.cells #[v0] 24) = X := ⟨_, rfl⟩
  have bx : Bx W s v0 24 := by rw [← hW, ← hs]; exact Bx.new_ w v0 _
  have hsz : W.heap.size = s + 1 := by rw [← hW, ← hs]; simp
  have hb0 : Below s w W := by rw [← hW]; exact (Below.refl s w).alloc (by omega) _
  rw [hs] at h0
  have hv0 := (h0.below_ hb0 (Nat.le_refl _)).mono_ (show s ≤ W.heap.size by omega)
  obtain ⟨A, c, rfl, hc1, hc2, _, _⟩ := id h0
  have hl0 : l0.length ≤ 9223372036854775807 := by simp only [maxLen] at hc2; omega
  have HBX := Lib.hid bx
  have HB0 := Lib.hid hb0
  have HV0 := Lib.hid hv0
  have q0 := bx.cell_
  clear bx hb0 hv0 h0 hc1 hc2
  have C1 := Lib.hid (many_any l0 _ _ W HV0.out)
  by_cases hm : 700 < l0.length
  · rw [decide_eq_true hm] at C1
    clear hm
    go_enter Try.func7, Try.ntmps7
    go_wp2_with (fail)
    refine (C1.out).mono ?_
    rintro e w1 ⟨rfl, b1⟩
    have HB1 := Lib.hid (HB0.out.trans (b1.mono (by omega)))
    clear b1
    have C2 := Lib.hid (works_voc w1)
    go_wp2_with (fail)
    refine (C2.out).mono ?_
    rintro e w2 ⟨rfl, b2⟩
    have HB2 := Lib.hid (HB1.out.trans (b2.mono (by have := HB1.out.size; omega)))
    clear b2
    go_wp2
    go_ret
    exact ⟨rfl, by rw [hs]; exact HB2.out⟩
  · rw [decide_eq_false hm] at C1
    have HP : Hid (l0.length ≤ 700) := by unfold Hid; omega
    clear hm
    obtain ⟨n, hn⟩ : ∃ n, l0.length = n := ⟨_, rfl⟩
    have HNL := Lib.hid hn
    obtain ⟨T, hT⟩ : ∃ T, Vo.allOf l0 = T := ⟨_, rfl⟩
    have HTE := Lib.hid hT
    obtain ⟨N, hN⟩ : ∃ N, T.length = N := ⟨_, rfl⟩
    have HTN := Lib.hid hN
    have HN7 : Hid (N ≤ 700) := by
      unfold Hid
      rw [← hN, ← hT, Vo.allOf]
      split
      · rw [Vo.texts_len]; exact HP.out
      · simp
    rw [hn] at hW HBX HV0 C1 q0 ⊢
    clear hn hT hN hl0
    by_cases hmay : Vo.May l0
    · have HMAY := Lib.hid hmay
      have HM : Hid (decide (Vo.May l0) = true) := by unfold Hid; simpa using hmay
      have HTT : Hid (T = Vo.texts l0) := by have := HTE.out; rw [Vo.allOf, if_pos hmay] at this; exact this.symm
      clear hmay
      have HNN : Hid (N = n) := by have := HTN.out; rw [HTT.out] at this; rw [Vo.texts_len, HNL.out] at this; exact this.symm
      go_enter Try.func7, Try.ntmps7
      go_wp2_with (fail)
      refine (C1.out).mono ?_
      rintro e w1 ⟨rfl, b1⟩
      have HB1 : Hid (Below s w w1) := HB0.out.trans (b1.mono (by omega))
      have HX1 := Lib.hid (HBX.out.below_ b1 (by omega))
      have HV1 := Lib.hid ((HV0.out.below_ b1 (Nat.le_refl _)).mono_ b1.size)
      clear b1 q0 C1 HBX HV0 HB0
      obtain ⟨s1, hs1⟩ : ∃ s1, w1.heap.size = s1 := ⟨_, rfl⟩
      obtain ⟨W2, hW2⟩ : ∃ X, w1.alloc (.cells #[] 36) = X := ⟨_, rfl⟩
      have b2 : Below s1 w1 W2 := by rw [← hW2]; exact (Below.refl s1 w1).alloc (by omega) _
      have hsz2 : W2.heap.size = s1 + 1 := by rw [← hW2, ← hs1]; simp
      have HB2 : Hid (Below s w W2) := HB1.out.trans (b2.mono (by have := HB1.out.size; omega))
      have HX2 : Hid (Bx W2 s (.slice A n c) 24) := HX1.out.below_ b2 (by have := HX1.out.lt_; omega)
      have HV2 : Hid (Lv pK W2 W2.heap.size (.slice A n c) l0) := (HV1.out.below_ b2 (by omega)).mono_ (by omega)
      have q2 := HX2.out.cell_
      have C2 := Lib.hid (rmay_voc l0 _ _ W2 HV2.out (Nat.le_refl _))
      rw [HM.out] at C2
      clear b2 HB1 HX1 HV1
      go_wp2_with (fail)
      refine (C2.out).mono ?_
      rintro e w2 ⟨rfl, b2⟩
      have HB3 : Hid (Below s w w2) := HB2.out.trans (b2.mono (by have := HB2.out.size; omega))
      have HX3 := Lib.hid (HX2.out.below_ b2 HX2.out.lt_)
      have HV3 := Lib.hid ((HV2.out.below_ b2 (Nat.le_refl _)).mono_ b2.size)
      have q3 := HX3.out.cell_
      clear b2 HB2 HX2 HV2 q2 C2
      have C3 := Lib.hid (rall_any l0 (Vo.may_iff.1 HMAY.out).2.1 _ _ w2 HV3.out (Nat.le_refl _) (by have := HP.out; omega))
      go_wp2_with (fail)
      refine (C3.out).mono ?_
      rintro e w3 ⟨A3, c3, rfl, ho3, b3⟩
      rw [HNL.out] at ho3 ⊢
      have HBA : Hid (Below s w w3) := HB3.out.trans (b3.mono (by have := HB3.out.size; omega))
      have HXA := Lib.hid (HX3.out.below_ b3 HX3.out.lt_)
      have HVA := Lib.hid ((HV3.out.below_ b3 (Nat.le_refl _)).mono_ b3.size)
      have HWA : Hid (LLv yR w3 w3.heap.size (.slice A3 n c3) T) := by unfold Hid; rw [HTT.out]; exact ho3.form_
      clear b3 ho3 HB3 HX3 HV3 q3 C3
      have HWB : Hid (w3.heap.size ≤ w3.heap.size) := Nat.le_refl _
      have C4 := Lib.hid (copyvoc_any l0 _ _ w3 HVA.out (Nat.le_refl _) (by have := HP.out; omega))
      have qA := HXA.out.cell_
      obtain ⟨sA, hsA⟩ : ∃ sA, w3.heap.size = sA := ⟨_, rfl⟩
      have HSA := Lib.hid hsA
      go_wp2_with (fail)
      refine (C4.out).mono ?_
      rintro e w4 ⟨A4, c4, rfl, ho4, hb4⟩
      rw [HNL.out] at ho4 ⊢
      rw [hsA] at ho4 hb4
      obtain ⟨g, hg⟩ : ∃ g, w4.heap.size = g := ⟨_, rfl⟩
      have hgA : sA ≤ g := by have := hb4.size; omega
      obtain ⟨X5, hX5⟩ : ∃ X, w4.alloc (.cells #[.slice none 0 0] 24) = X := ⟨_, rfl⟩
      have x5 : Bx X5 g (.slice none 0 0) 24 := by rw [← hX5, ← hg]; exact Bx.new_ w4 _ _
      have y5 := x5.cell_
      have z5 := x5.cool_
      obtain ⟨W5, hW5⟩ : ∃ X, X5.setCell ⟨g, 0, none⟩ (.slice A4 n c4) = X := ⟨_, rfl⟩
      have b5 : Bx W5 g (.slice A4 n c4) 24 := by rw [← hW5]; exact x5.set_ _
      have hlt4 := ho4.lt_
      have ho5 : OwnL pK W5 sA (.slice A4 n c4) l0 := by
        rw [← hW5]
        refine OwnL.of_block (w := X5) (by rw [← hX5]; exact ho4.alloc_ _) (fun k hk => heap_setCell_other _ _ _ _ (by have := (hlt4 k hk).2; show k ≠ g; omega))
      have hb5 : Below sA w3 W5 := by
        rw [← hW5, ← hX5]
        exact (hb4.alloc (by omega) _).setCell (p := ⟨g, 0, none⟩) hgA _
      have hs5 : W5.heap.size = g + 1 := by rw [← hW5, ← hX5, ← hg]; simp
      have q5 := b5.cell_
      have C5 := Lib.hid (pall_any l0 _ _ W5 ho5.form_ (Nat.le_refl _) HP.out)
      rw [HTE.out] at C5
      have HO5 := Lib.hid ho5
      have HB5 := Lib.hid hb5
      have HX5 := Lib.hid b5
      have HL4 : Hid (∀ k, (Value.slice A4 n c4).ownBlock = some k → k < g) := fun k hk => by have := (hlt4 k hk).2; omega
      clear C4 ho4 hb4 x5 hlt4 ho5 hb5 b5 qA
      go_wp2_with (fail)
      refine (C5.out).mono ?_
      rintro e w6 ⟨gf, lb, rfl, henter, hb6, hseq⟩
      have q6 := (hb6.cell (p := ⟨g, 0, none⟩) (by show g < _; omega)).trans q5
      have HX6 := Lib.hid (HX5.out.below_ hb6 (by omega))
      have HO6 := Lib.hid (HO5.out.below_ hb6 (Nat.le_refl _))
      have HB6 : Hid (Below sA w3 w6) := HB5.out.trans (hb6.mono (by omega))
      have HSEQ := Lib.hid hseq
      have HS6 : Hid (g < w6.heap.size) := by have := hb6.size; unfold Hid; omega
      have HS5 := Lib.hid hs5
      clear hb6 hseq C5 q5 y5 z5 HO5 HX5 HB5
      have HN0 : Hid (n ≤ 700) := by have := HP.out; have := HNL.out; unfold Hid; omega
      go_wp2
      go_loopw [8] (fun i wr => ∃ (k : Nat) (Q : List Vo.Pc), k ≤ n ∧ i = .int .i64 k ∧ Hid (Q.length = n) ∧ Hid (OwnL pK wr sA (.slice A4 n c4) Q) ∧ Turned (fun j => (Value.slice A4 n c4).ownBlock = some j) w6 wr) (fun i _ => n - (intOf i).toNat)
      case atStart => exact ⟨0, l0, Nat.zero_le _, rfl, HNL.out, HO6.out, Turned.refl _ _⟩
      case round =>
        obtain ⟨k, Q, hk, rfl, HQ, HO, ht⟩ := hrel
        have HT7 := Lib.hid ht
        have hgx : (Value.slice A4 n c4).ownBlock ≠ some g := fun e => by have := HL4.out g e; omega
        have q7 := ht.cell q6 hgx
        clear ht
        by_cases hlt : k < n
        · have g1 : (k : Int) < (n : Int) := by omega
          have hkQ : k < Q.length := by have := HQ.out; omega
          have hkI : I64 (k : Int) := by have := HN0.out; unfold I64; omega
          obtain ⟨g4, y, hA4, -, -, hyo, hy, hcs, hfz⟩ := HO.out.at_ hkQ
          subst hA4
          have o0 : wr.cell? ⟨g4, k * 5, none⟩ = some (.bool y.join) := hcs 0 _ rfl
          have o1 : wr.cell? ⟨g4, k * 5 + 1, none⟩ = some (.int .u8 (y.byte : Nat)) := hcs 1 _ rfl
          have o2 : wr.cell? ⟨g4, k * 5 + 2, none⟩ = some (.int .i64 y.left) := hcs 2 _ rfl
          have o3 : wr.cell? ⟨g4, k * 5 + 3, none⟩ = some (.int .i64 y.right) := hcs 3 _ rfl
          have o4 : wr.cell? ⟨g4, k * 5 + 4, none⟩ = some (.int .u32 (y.rank : Nat)) := hcs 4 _ rfl
          have f0 := hfz (k * 5)
          have f1 := hfz (k * 5 + 1)
          have f2 := hfz (k * 5 + 2)
          have f3 := hfz (k * 5 + 3)
          have f4 := hfz (k * 5 + 4)
          obtain ⟨ho9, hg9⟩ := HO.out.setAll_ hkQ (x := (⟨true, 0, (k : Int), 0, 0⟩ : Vo.Pc)) ⟨(show (0 : Nat) < 256 by decide), hkI, (show I64 0 by unfold I64; omega), (show (0 : Nat) < 4294967296 by decide)⟩
          obtain ⟨W9, hW9⟩ : ∃ X, setAll wr g4 (k * pK.size) (pK.enc ⟨true, 0, (k : Int), 0, 0⟩) = X := ⟨_, rfl⟩
          rw [hW9] at ho9 hg9
          change ((((wr.setCell ⟨g4, k * 5, none⟩ (.bool true)).setCell ⟨g4, k * 5 + 1, none⟩ (.int .u8 0)).setCell ⟨g4, k * 5 + 2, none⟩ (.int .i64 (k : Int))).setCell ⟨g4, k * 5 + 3, none⟩ (.int .i64 0)).setCell ⟨g4, k * 5 + 4, none⟩ (.int .u32 0) = W9 at hW9
          have HO9 := Lib.hid ho9
          have HG9 : Hid (Turned (fun j => (Value.slice (some ⟨g4, 0, none⟩) n c4).ownBlock = some j) w6 W9) := HT7.out.trans (Turned.of_grown hg9) (fun _ _ h => h)
          have HQ9 : Hid ((Q.set k (⟨true, 0, (k : Int), 0, 0⟩ : Vo.Pc)).length = n) := by unfold Hid; rw [List.length_set]; exact HQ.out
          have hwk : IntKind.i64.wrap ((k : Int) + 1) = (k : Int) + 1 := by have := HN0.out; rw [IntKind.wrap_i64]; omega
          have HLT := Lib.hid hlt
          clear ho9 hg9 hcs hfz hyo hy HO HT7 hkQ
          go_wp2
          exact ⟨⟨k + 1, _, by have := HLT.out; omega, by go_num, HQ9.out, HO9.out, HG9.out⟩, by have := HLT.out; simp [intOf]; omega⟩
        · have g1 : ¬ (k : Int) < (n : Int) := by omega
          have hb7 : Below sA w3 wr := HB6.out.trans (HT7.out.below (by have := HB6.out.size; rw [HSA.out] at this; exact this) (fun j hj => (HO.out.lt_ j hj).1))
          have hy7 := HSEQ.out wr HT7.out.size (fun j h1 h2 => HT7.out.block j h2 (fun e => by have := HL4.out j e; have := HS5.out; omega))
          have hw7 := (HWA.out.below_ (hb7.mono (show w3.heap.size ≤ sA by omega)) (Nat.le_refl _))
          have C8 := Lib.hid (over_any T (by rw [HTN.out]; have := HN7.out; omega) gf lb henter _ a1 _ wr hw7 (by have := hb7.size; omega) hy7)
          have HB7 := Lib.hid hb7
          have HW7 := Lib.hid hw7
          rw [HTN.out] at C8
          clear hb7 hy7 hw7 HO
          go_wp2_with (fail)
          refine (C8.out).mono ?_
          rintro e w8 ⟨rfl, hb8⟩
          have hy8 := HSEQ.out w8 (Nat.le_trans HT7.out.size hb8.size) (fun j h1 h2 => (hb8.block j (Nat.lt_of_lt_of_le h2 HT7.out.size)).trans (HT7.out.block j h2 (fun e => by have := HL4.out j e; have := HS5.out; omega)))
          have hb8' : Below sA w3 w8 := HB7.out.trans (hb8.mono (by have := HB7.out.size; omega))
          have hw8 := HWA.out.below_ (hb8'.mono (show w3.heap.size ≤ sA by omega)) (Nat.le_refl _)
          have C9 := Lib.hid (over_any T (by rw [HTN.out]; have := HN7.out; omega) gf lb henter _ (-1) _ w8 hw8 (by have := hb8'.size; omega) hy8)
          have HB8 := Lib.hid hb8'
          rw [HTN.out, show leftAt N (-1) = (N : Int) by unfold leftAt; rw [if_neg (by omega)]] at C9
          obtain ⟨L, hL⟩ : ∃ L, leftAt N a1 = L := ⟨_, rfl⟩
          rw [hL]
          have HLA := Lib.hid hL
          clear hb8 hy8 hb8' hw8 C8 HB7 HW7 hL
          go_wp2_with (fail)
          refine (C9.out).mono ?_
          rintro e w9 ⟨rfl, hb9⟩
          have HB9 : Hid (Below s w w9) := HBA.out.trans ((HB8.out.mono (by have := HBA.out.size; omega)).trans (hb9.mono (by have := HB8.out.size; have := HBA.out.size; omega)))
          have C10 := Lib.hid (works_voc w9)
          have hNN : ((N : Int) == (n : Int)) = true := by rw [HNN.out]; simp
          have hNN2 : (N : Int) = (n : Int) := by have := HNN.out; omega
          clear hb9 C9 HB8
          rcases Int.lt_or_le a1 0 with hneg | hpos
          · go_wp2_with (fail)
            refine (C10.out).mono ?_
            rintro e w10 ⟨rfl, hb10⟩
            have HE : Hid (Below s w w10) := HB9.out.trans (hb10.mono (by have := HB9.out.size; omega))
            clear hb10
            go_wp2
            go_ret
            exact ⟨rfl, by rw [hs]; exact HE.out⟩
          · have hneg : ¬ a1 < 0 := by omega
            rcases Int.lt_or_le a1 (N : Int) with hlt2 | hge
            · have hge : ¬ (N : Int) ≤ a1 := by omega
              have hLa : (L == a1) = true := by
                have e := HLA.out
                rw [leftAt, if_pos ⟨hpos, hlt2⟩] at e
                rw [← e]; simp
              go_wp2_with (fail)
              refine (C10.out).mono ?_
              rintro e w10 ⟨rfl, hb10⟩
              have HE : Hid (Below s w w10) := HB9.out.trans (hb10.mono (by have := HB9.out.size; omega))
              clear hb10
              go_wp2
              go_ret
              exact ⟨rfl, by rw [hs]; exact HE.out⟩
            · go_wp2_with (fail)
              refine (C10.out).mono ?_
              rintro e w10 ⟨rfl, hb10⟩
              have HE : Hid (Below s w w10) := HB9.out.trans (hb10.mono (by have := HB9.out.size; omega))
              clear hb10
              go_wp2
              go_ret
              exact ⟨rfl, by rw [hs]; exact HE.out⟩
    · have HMAY := Lib.hid hmay
      have HM : Hid (decide (Vo.May l0) = false) := by unfold Hid; simpa using hmay
      have HTT : Hid (T = []) := by have := HTE.out; rw [Vo.allOf, if_neg hmay] at this; exact this.symm
      clear hmay
      have HNN : Hid (N = 0) := by have := HTN.out; rw [HTT.out] at this; exact this.symm
      go_enter Try.func7, Try.ntmps7
      go_wp2_with (fail)
      refine (C1.out).mono ?_
      rintro e w1 ⟨rfl, b1⟩
      have HB1 : Hid (Below s w w1) := HB0.out.trans (b1.mono (by omega))
      have HX1 := Lib.hid (HBX.out.below_ b1 (by omega))
      have HV1 := Lib.hid ((HV0.out.below_ b1 (Nat.le_refl _)).mono_ b1.size)
      clear b1 q0 C1 HBX HV0 HB0
      obtain ⟨s1, hs1⟩ : ∃ s1, w1.heap.size = s1 := ⟨_, rfl⟩
      obtain ⟨W2, hW2⟩ : ∃ X, w1.alloc (.cells #[] 36) = X := ⟨_, rfl⟩
      have b2 : Below s1 w1 W2 := by rw [← hW2]; exact (Below.refl s1 w1).alloc (by omega) _
      have hsz2 : W2.heap.size = s1 + 1 := by rw [← hW2, ← hs1]; simp
      have HB2 : Hid (Below s w W2) := HB1.out.trans (b2.mono (by have := HB1.out.size; omega))
      have HX2 : Hid (Bx W2 s (.slice A n c) 24) := HX1.out.below_ b2 (by have := HX1.out.lt_; omega)
      have HV2 : Hid (Lv pK W2 W2.heap.size (.slice A n c) l0) := (HV1.out.below_ b2 (by omega)).mono_ (by omega)
      have q2 := HX2.out.cell_
      have C2 := Lib.hid (rmay_voc l0 _ _ W2 HV2.out (Nat.le_refl _))
      rw [HM.out] at C2
      clear b2 HB1 HX1 HV1
      go_wp2_with (fail)
      refine (C2.out).mono ?_
      rintro e w2 ⟨rfl, b2⟩
      have HB3 : Hid (Below s w w2) := HB2.out.trans (b2.mono (by have := HB2.out.size; omega))
      have HX3 := Lib.hid (HX2.out.below_ b2 HX2.out.lt_)
      have HV3 := Lib.hid ((HV2.out.below_ b2 (Nat.le_refl _)).mono_ b2.size)
      have q3 := HX3.out.cell_
      have HBA := Lib.hid HB3.out
      have HXA := Lib.hid HX3.out
      have HVA := Lib.hid HV3.out
      have HWA : Hid (LLv yR w2 w2.heap.size (.slice (some ⟨s1, 0, none⟩) 0 0) T) := by
        unfold Hid
        rw [HTT.out]
        exact ⟨[], rfl, ⟨_, _, rfl, Nat.le_refl _, Nat.zero_le _, fun h => (by cases h), by simp, by simp⟩, fun j u l h => by simp at h⟩
      clear b2 HB2 HX2 HV2 q2 C2 HB3 HX3 HV3 q3
      have HWB : Hid (w2.heap.size ≤ w2.heap.size) := Nat.le_refl _
      have C4 := Lib.hid (copyvoc_any l0 _ _ w2 HVA.out (Nat.le_refl _) (by have := HP.out; omega))
      have qA := HXA.out.cell_
      obtain ⟨sA, hsA⟩ : ∃ sA, w2.heap.size = sA := ⟨_, rfl⟩
      have HSA := Lib.hid hsA
      go_wp2_with (fail)
      refine (C4.out).mono ?_
      rintro e w4 ⟨A4, c4, rfl, ho4, hb4⟩
      rw [HNL.out] at ho4 ⊢
      rw [hsA] at ho4 hb4
      obtain ⟨g, hg⟩ : ∃ g, w4.heap.size = g := ⟨_, rfl⟩
      have hgA : sA ≤ g := by have := hb4.size; omega
      obtain ⟨X5, hX5⟩ : ∃ X, w4.alloc (.cells #[.slice none 0 0] 24) = X := ⟨_, rfl⟩
      have x5 : Bx X5 g (.slice none 0 0) 24 := by rw [← hX5, ← hg]; exact Bx.new_ w4 _ _
      have y5 := x5.cell_
      have z5 := x5.cool_
      obtain ⟨W5, hW5⟩ : ∃ X, X5.setCell ⟨g, 0, none⟩ (.slice A4 n c4) = X := ⟨_, rfl⟩
      have b5 : Bx W5 g (.slice A4 n c4) 24 := by rw [← hW5]; exact x5.set_ _
      have hlt4 := ho4.lt_
      have ho5 : OwnL pK W5 sA (.slice A4 n c4) l0 := by
        rw [← hW5]
        refine OwnL.of_block (w := X5) (by rw [← hX5]; exact ho4.alloc_ _) (fun k hk => heap_setCell_other _ _ _ _ (by have := (hlt4 k hk).2; show k ≠ g; omega))
      have hb5 : Below sA w2 W5 := by
        rw [← hW5, ← hX5]
        exact (hb4.alloc (by omega) _).setCell (p := ⟨g, 0, none⟩) hgA _
      have hs5 : W5.heap.size = g + 1 := by rw [← hW5, ← hX5, ← hg]; simp
      have q5 := b5.cell_
      have C5 := Lib.hid (pall_any l0 _ _ W5 ho5.form_ (Nat.le_refl _) HP.out)
      rw [HTE.out] at C5
      have HO5 := Lib.hid ho5
      have HB5 := Lib.hid hb5
      have HX5 := Lib.hid b5
      have HL4 : Hid (∀ k, (Value.slice A4 n c4).ownBlock = some k → k < g) := fun k hk => by have := (hlt4 k hk).2; omega
      clear C4 ho4 hb4 x5 hlt4 ho5 hb5 b5 qA
      go_wp2_with (fail)
      refine (C5.out).mono ?_
      rintro e w6 ⟨gf, lb, rfl, henter, hb6, hseq⟩
      have q6 := (hb6.cell (p := ⟨g, 0, none⟩) (by show g < _; omega)).trans q5
      have HX6 := Lib.hid (HX5.out.below_ hb6 (by omega))
      have HO6 := Lib.hid (HO5.out.below_ hb6 (Nat.le_refl _))
      have HB6 : Hid (Below sA w2 w6) := HB5.out.trans (hb6.mono (by omega))
      have HSEQ := Lib.hid hseq
      have HS6 : Hid (g < w6.heap.size) := by have := hb6.size; unfold Hid; omega
      have HS5 := Lib.hid hs5
      clear hb6 hseq C5 q5 y5 z5 HO5 HX5 HB5
      have HN0 : Hid (n ≤ 700) := by have := HP.out; have := HNL.out; unfold Hid; omega
      go_wp2
      go_loopw [8] (fun i wr => ∃ (k : Nat) (Q : List Vo.Pc), k ≤ n ∧ i = .int .i64 k ∧ Hid (Q.length = n) ∧ Hid (OwnL pK wr sA (.slice A4 n c4) Q) ∧ Turned (fun j => (Value.slice A4 n c4).ownBlock = some j) w6 wr) (fun i _ => n - (intOf i).toNat)
      case atStart => exact ⟨0, l0, Nat.zero_le _, rfl, HNL.out, HO6.out, Turned.refl _ _⟩
      case round =>
        obtain ⟨k, Q, hk, rfl, HQ, HO, ht⟩ := hrel
        have HT7 := Lib.hid ht
        have hgx : (Value.slice A4 n c4).ownBlock ≠ some g := fun e => by have := HL4.out g e; omega
        have q7 := ht.cell q6 hgx
        clear ht
        by_cases hlt : k < n
        · have g1 : (k : Int) < (n : Int) := by omega
          have hkQ : k < Q.length := by have := HQ.out; omega
          have hkI : I64 (k : Int) := by have := HN0.out; unfold I64; omega
          obtain ⟨g4, y, hA4, -, -, hyo, hy, hcs, hfz⟩ := HO.out.at_ hkQ
          subst hA4
          have o0 : wr.cell? ⟨g4, k * 5, none⟩ = some (.bool y.join) := hcs 0 _ rfl
          have o1 : wr.cell? ⟨g4, k * 5 + 1, none⟩ = some (.int .u8 (y.byte : Nat)) := hcs 1 _ rfl
          have o2 : wr.cell? ⟨g4, k * 5 + 2, none⟩ = some (.int .i64 y.left) := hcs 2 _ rfl
          have o3 : wr.cell? ⟨g4, k * 5 + 3, none⟩ = some (.int .i64 y.right) := hcs 3 _ rfl
          have o4 : wr.cell? ⟨g4, k * 5 + 4, none⟩ = some (.int .u32 (y.rank : Nat)) := hcs 4 _ rfl
          have f0 := hfz (k * 5)
          have f1 := hfz (k * 5 + 1)
          have f2 := hfz (k * 5 + 2)
          have f3 := hfz (k * 5 + 3)
          have f4 := hfz (k * 5 + 4)
          obtain ⟨ho9, hg9⟩ := HO.out.setAll_ hkQ (x := (⟨true, 0, (k : Int), 0, 0⟩ : Vo.Pc)) ⟨(show (0 : Nat) < 256 by decide), hkI, (show I64 0 by unfold I64; omega), (show (0 : Nat) < 4294967296 by decide)⟩
          obtain ⟨W9, hW9⟩ : ∃ X, setAll wr g4 (k * pK.size) (pK.enc ⟨true, 0, (k : Int), 0, 0⟩) = X := ⟨_, rfl⟩
          rw [hW9] at ho9 hg9
          change ((((wr.setCell ⟨g4, k * 5, none⟩ (.bool true)).setCell ⟨g4, k * 5 + 1, none⟩ (.int .u8 0)).setCell ⟨g4, k * 5 + 2, none⟩ (.int .i64 (k : Int))).setCell ⟨g4, k * 5 + 3, none⟩ (.int .i64 0)).setCell ⟨g4, k * 5 + 4, none⟩ (.int .u32 0) = W9 at hW9
          have HO9 := Lib.hid ho9
          have HG9 : Hid (Turned (fun j => (Value.slice (some ⟨g4, 0, none⟩) n c4).ownBlock = some j) w6 W9) := HT7.out.trans (Turned.of_grown hg9) (fun _ _ h => h)
          have HQ9 : Hid ((Q.set k (⟨true, 0, (k : Int), 0, 0⟩ : Vo.Pc)).length = n) := by unfold Hid; rw [List.length_set]; exact HQ.out
          have hwk : IntKind.i64.wrap ((k : Int) + 1) = (k : Int) + 1 := by have := HN0.out; rw [IntKind.wrap_i64]; omega
          have HLT := Lib.hid hlt
          clear ho9 hg9 hcs hfz hyo hy HO HT7 hkQ
          go_wp2
          exact ⟨⟨k + 1, _, by have := HLT.out; omega, by go_num, HQ9.out, HO9.out, HG9.out⟩, by have := HLT.out; simp [intOf]; omega⟩
        · have g1 : ¬ (k : Int) < (n : Int) := by omega
          have hb7 : Below sA w2 wr := HB6.out.trans (HT7.out.below (by have := HB6.out.size; rw [HSA.out] at this; exact this) (fun j hj => (HO.out.lt_ j hj).1))
          have hy7 := HSEQ.out wr HT7.out.size (fun j h1 h2 => HT7.out.block j h2 (fun e => by have := HL4.out j e; have := HS5.out; omega))
          have hw7 := (HWA.out.below_ (hb7.mono (show w2.heap.size ≤ sA by omega)) (Nat.le_refl _))
          have C8 := Lib.hid (over_any T (by rw [HTN.out]; have := HN7.out; omega) gf lb henter _ a1 _ wr hw7 (by have := hb7.size; omega) hy7)
          have HB7 := Lib.hid hb7
          have HW7 := Lib.hid hw7
          rw [HTN.out] at C8
          clear hb7 hy7 hw7 HO
          go_wp2_with (fail)
          refine (C8.out).mono ?_
          rintro e w8 ⟨rfl, hb8⟩
          have hy8 := HSEQ.out w8 (Nat.le_trans HT7.out.size hb8.size) (fun j h1 h2 => (hb8.block j (Nat.lt_of_lt_of_le h2 HT7.out.size)).trans (HT7.out.block j h2 (fun e => by have := HL4.out j e; have := HS5.out; omega)))
          have hb8' : Below sA w2 w8 := HB7.out.trans (hb8.mono (by have := HB7.out.size; omega))
          have hw8 := HWA.out.below_ (hb8'.mono (show w2.heap.size ≤ sA by omega)) (Nat.le_refl _)
          have C9 := Lib.hid (over_any T (by rw [HTN.out]; have := HN7.out; omega) gf lb henter _ (-1) _ w8 hw8 (by have := hb8'.size; omega) hy8)
          have HB8 := Lib.hid hb8'
          rw [HTN.out, show leftAt N (-1) = (N : Int) by unfold leftAt; rw [if_neg (by omega)]] at C9
          obtain ⟨L, hL⟩ : ∃ L, leftAt N a1 = L := ⟨_, rfl⟩
          rw [hL]
          have HLA := Lib.hid hL
          clear hb8 hy8 hb8' hw8 C8 HB7 HW7 hL
          go_wp2_with (fail)
          refine (C9.out).mono ?_
          rintro e w9 ⟨rfl, hb9⟩
          have HB9 : Hid (Below s w w9) := HBA.out.trans ((HB8.out.mono (by have := HBA.out.size; omega)).trans (hb9.mono (by have := HB8.out.size; have := HBA.out.size; omega)))
          have C10 := Lib.hid (works_voc w9)
          have hNN : ((N : Int) == (0 : Int)) = true := by rw [HNN.out]; simp
          have hNN2 : (N : Int) = (0 : Int) := by have := HNN.out; omega
          clear hb9 C9 HB8
          rcases Int.lt_or_le a1 0 with hneg | hpos
          · go_wp2_with (fail)
            refine (C10.out).mono ?_
            rintro e w10 ⟨rfl, hb10⟩
            have HE : Hid (Below s w w10) := HB9.out.trans (hb10.mono (by have := HB9.out.size; omega))
            clear hb10
            go_wp2
            go_ret
            exact ⟨rfl, by rw [hs]; exact HE.out⟩
          · have hneg : ¬ a1 < 0 := by omega
            rcases Int.lt_or_le a1 (N : Int) with hlt2 | hge
            · have hge : ¬ (N : Int) ≤ a1 := by omega
              have hLa : (L == a1) = true := by
                have e := HLA.out
                rw [leftAt, if_pos ⟨hpos, hlt2⟩] at e
                rw [← e]; simp
              go_wp2_with (fail)
              refine (C10.out).mono ?_
              rintro e w10 ⟨rfl, hb10⟩
              have HE : Hid (Below s w w10) := HB9.out.trans (hb10.mono (by have := HB9.out.size; omega))
              clear hb10
              go_wp2
              go_ret
              exact ⟨rfl, by rw [hs]; exact HE.out⟩
            · go_wp2_with (fail)
              refine (C10.out).mono ?_
              rintro e w10 ⟨rfl, hb10⟩
              have HE : Hid (Below s w w10) := HB9.out.trans (hb10.mono (by have := HB9.out.size; omega))
              clear hb10
              go_wp2
              go_ret
              exact ⟨rfl, by rw [hs]; exact HE.out⟩
/-! ### From the walk to the row -/
set_option maxRecDepth 100000 in
theorem lifted (os : Os) (started : os.Started) (H : Type) (enc : TypeId × Value → H) :
    ReturnsInHanded {} Try.checked os 7 .any (Rows.vocabAllSpec.pre6 enc Try.prog Try.f7 Rows.vocabAllRow.domain false) (Rows.vocabAllSpec.post enc Try.prog Try.f7 false true false false) := by
  refine returnsInHanded_of_change (C := Try.checked) own started (by kernel_rfl) Try.func7
    (ChangeSpec.witness6 (enc := enc) (C := Try.checked) false ⟨#[], #[.agg #[.slice none 0 0], .int .i64 0], []⟩ 8 (by kernel_rfl) (by kernel_rfl) (by kernel_rfl) (by kernel_rfl)) ?_
  intro W base args ds gs before hval0 hW hcnd _
  have hval : ∀ (j : Nat) t v, Try.f7.params[j]? = some t → args[j]? = some v → Value.okWide Try.prog W .any base t v := hval0
  have hW' := hW
  obtain ⟨p, q, hA0, hV, rfl, hfz, hnd⟩ := hW
  have hA : DataW.TrodAll enc Try.prog W 0 (fun _ => true) true Try.f7.params.toList args.toList ds p := hA0
  rw [Try.params7] at hA hval
  obtain ⟨v0, vs0, d0, ds0, p0, q0, hargs, rfl, rfl, h0, r0⟩ := trodAll_cons hA
  obtain ⟨v1, vs1, d1, ds1, p1, q1, rfl, rfl, rfl, h1, r1⟩ := trodAll_cons r0
  obtain ⟨rfl, rfl, rfl⟩ := trodAll_nil r1
  obtain rfl : args = #[v0, v1] := by cases args; simp_all
  obtain ⟨rfl, rfl⟩ := trodVars_none hV
  have k0 := h0
  have lt0 : ∀ x ∈ p0, x.block < W.heap.size := by obtain ⟨m, hm⟩ := k0; exact DataW.trod_lt m _ _ _ hm
  obtain ⟨u0, l0, rfl, hb0⟩ := voc_in (hval 0 24 v0 rfl rfl) h0
  obtain ⟨a1, rfl, rfl, rfl, w1⟩ := open_int Try.underlying3 (hval 1 3 v1 rfl rfl) h1
  clear hA0 hval0
  refine (walk W u0 l0 hb0 a1 w1).mono fun e W' ⟨he, bel⟩ => ?_
  subst he
  exact ⟨_, rfl, _, _, _, [], _, [], hW', trodAll_mk1 (shut_bool Try.underlying4 _), (trodAll_cons_mk (Below.trod laidOut (by kernel_rfl) (of_decide_eq_true (by kernel_rfl)) k0 bel lt0) (trodAll_cons_mk (shut_int Try.underlying3 w1) trodAll_mk0)), rfl, bel.frame _, fun h => by cases h⟩

theorem proved : Rows.VocabAllSaid :=
  OpenClaim.holds_of_wide 7 Try.f7 rfl rfl rfl rfl rfl rfl rfl ⟨rfl, rfl, rfl, rfl, rfl⟩ rfl rfl rfl rfl rfl (by kernel_rfl) Try.func7 (by kernel_rfl)
    (of_decide_eq_true (by kernel_rfl)) (by unfold Func.isWrapper; first | (rw [if_pos (by decide +kernel)]; kernel_rfl) | (rw [if_neg (by decide +kernel)]; exact ⟨rfl, rfl⟩))
    (fun os started H enc _ => lifted os started H enc)

end Go.Proofs.Ytgkmlcghkkpgpaa.vocabAll
