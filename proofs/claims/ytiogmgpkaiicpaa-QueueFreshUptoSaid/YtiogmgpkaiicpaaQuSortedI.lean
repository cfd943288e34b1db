/-
  The program's Sorted of int.
-/
import Derived.Test.YtiogmgpkaiicpaaQuIsI
namespace Go.Proofs.Ytiogmgpkaiicpaa
open Go.RowKit
set_option linter.unusedVariables false

def qlen : Value → Nat
  | .slice _ n _ => n
  | _ => 0
theorem made_not_nilI (b : Nat) (w : World) : (binOp .eql 23 (.pointer (some ⟨b, 0, none⟩)) (.pointer none)).run Try.prog w = .ok (.bool false) w := by
  kernel_rfl

set_option maxHeartbeats 4000000 in
theorem psortedI (v : Value) (l : List Int) (fn : Nat) (caps : Array Value) (lt : Int → Int → Bool) (B : Nat) (w : World) (hB : B ≤ w.heap.size) (h : Lv iK w B v l) (hsz : l.length ≤ 4194304) (ho : Qu.Order lt) (hl : Less intV I64 fn caps lt w (fun k => w.heap.size ≤ k)) :
    Calls Try.prog 19 #[v, fnV fn caps] w (IsL1 iK (Qu.sorted lt l) w) := by
  have HK := Lib.hid hsz
  obtain ⟨A, c, rfl, hlc, hcm, _⟩ := h
  have h : Lv iK w B (.slice A l.length c) l := ⟨A, c, rfl, hlc, hcm, by assumption⟩
  have HL := Lib.hid h
  have HO := Lib.hid ho
  have HLE := Lib.hid hl
  have HBw := Lib.hid hB
  have HN := Lib.hid (pnewI fn caps lt w)
  obtain ⟨n, hn⟩ : ∃ n, l.length = n := ⟨_, rfl⟩
  rw [hn] at HL HK
  have HLN := Lib.hid hn
  unfold fnV at HN ⊢
  rw [hn]
  have hnn := made_not_nilI
  clear h hl ho hB hlc hcm hn hsz
  go_enter Try.func19, Try.ntmps19
  go_wp2_with (fail)
  refine (HN.out).mono ?_
  rintro e w1 ⟨qb, F, rfl, hq, hF, hb⟩
  have HT1 : Hid (Turned (fun k => w.heap.size ≤ k) w w1) := Turned.of_below hb
  have HQ := Lib.hid hq
  have HF := Lib.hid hF
  clear HN hq hF hb
  have HK1 : Hid (n ≤ 4194304) := HK.out
  go_wp2
  go_loopw [17] (fun i wr => ∃ (k : Nat) (F1 : Nat → Prop), k ≤ n ∧ i = .int .i64 k ∧ Hid (IsQI wr F1 qb fn caps lt (Qu.sorted lt (l.take k)) k) ∧ Hid (∀ k, F1 k → w.heap.size ≤ k) ∧ Turned (fun k => w.heap.size ≤ k) w wr) (fun i _ => n - (intOf i).toNat)
  case atStart => exact ⟨0, F, Nat.zero_le _, rfl, HQ.out, HF.out, HT1.out⟩
  case round =>
    obtain ⟨k, F1, hk, rfl, HQ1, HF1, ht⟩ := hrel
    have HT := Lib.hid ht
    clear ht HQ HF HT1
    by_cases hlt : k < n
    · have g1 : (k : Int) < (n : Int) := by omega
      have HR := Lib.hid (HL.out.turned_ HT.out (fun k h1 h2 => by have := HBw.out; have h2 : w.heap.size ≤ k := h2; omega))
      obtain ⟨bb, o, x, rfl, hbb, hxo, hx, hcell⟩ := HR.out.int_ (k := k) (by have := HLN.out; omega)
      have HP := Lib.hid (ppushI HQ1.out HO.out (HLE.out.step HT.out (fun k _ h => HF1.out k h)) x hxo (by have := HK.out; omega))
      change Hid (Calls _ _ #[_, .int .i64 x] _ _) at HP
      have HX : Hid (Qu.sorted lt (l.take (k + 1)) = Qu.ins lt (Qu.sorted lt (l.take k)) x) := by unfold Hid; rw [take_snoc hx, Qu.sorted_snoc]
      have hwk : IntKind.i64.wrap ((k : Int) + 1) = (k : Int) + 1 := by have := HK.out; rw [IntKind.wrap_i64]; omega
      clear hx hxo HR
      go_wp2_with (fail)
      refine (HP.out).mono ?_
      rintro e w2 ⟨rfl, F2, hq2, ht2, hF2⟩
      have HQ2 : Hid (IsQI w2 F2 qb fn caps lt (Qu.sorted lt (l.take (k + 1))) (k + 1)) := by unfold Hid; rw [HX.out]; exact hq2
      have HT2 := Lib.hid (HT.out.trans ht2 (fun k _ h => HF1.out k h))
      have HF2 : Hid (∀ k, F2 k → w.heap.size ≤ k) := fun k h => by
        rcases hF2 k h with h | h
        · exact HF1.out k h
        · have := HT.out.size; omega
      clear hq2 ht2 hF2 HP hcell
      go_wp2
      exact ⟨⟨k + 1, F2, by omega, by go_num, HQ2.out, HF2.out, HT2.out⟩, by simp [intOf]; omega⟩
    · have hkn : k = n := by omega
      have g1 : ¬ (k : Int) < (n : Int) := by omega
      have HS0 : Hid (IsQI wr F1 qb fn caps lt (Qu.sorted lt l) n) := by
        have := HQ1.out
        rw [hkn] at this
        rw [List.take_of_length_le (by have := HLN.out; omega)] at this
        exact this
      clear hkn HQ1
      have hby : 8 * n ≤ 281474976710656 := by have := HK1.out; omega
      have h63 : n ≤ maxLen := by have := HK1.out; simp only [maxLen]; omega
      have hsz1 : w.heap.size ≤ wr.heap.size := HT.out.size
      go_wp2_with (at_make; go_must (refine wpList_make_l _ iK rfl _ _ rfl w.heap.size .i64 .i64 _ _ 0 n rfl rfl rfl rfl (Nat.zero_le _) hby h63 hsz1 ?_; intro w2 hO hG))
      have hOW : OwnL iK w2 w.heap.size (.slice (some ⟨wr.heap.size, 0, none⟩) 0 n) [] := hO
      obtain ⟨rb, hrb⟩ : ∃ b, wr.heap.size = b := ⟨_, rfl⟩
      rw [hrb] at hOW
      have hlt1 := HS0.out.lt_
      have HG2 : Hid (Turned (fun _ => False) wr w2) := (Turned.of_grown hG).mono (fun _ _ h => by cases h)
      have HQ2 := Lib.hid (HS0.out.turned_ HG2.out (fun _ _ _ h => h))
      have HT2 := Lib.hid (HT.out.trans HG2.out (fun _ _ h => h.elim))
      have HAP : Hid (∀ k, F1 k → (some rb : Option Nat) ≠ some k) := fun k hk e => by have := hlt1 k hk; have e := Option.some.inj e; omega
      have HOW := Lib.hid hOW
      rw [hrb]
      clear hO hG hOW hrb hlt1 hby h63 hsz1 HS0
      have HP := Lib.hid (ppopI HQ2.out HO.out (HLE.out.step HT2.out (fun k _ h => HF1.out k h)) HK1.out)
      change Hid (Calls _ _ _ _ (fun e w' => e = .returned (.tuple #[.int .i64 (List.headD _ 0), _]) ∧ _)) at HP
      obtain ⟨S, hS⟩ : ∃ S, Qu.sorted lt l = S := ⟨_, rfl⟩
      have hSn : S.length = n := by rw [← hS, Qu.sorted_len]; exact HLN.out
      have HSN := Lib.hid hSn
      have HSE := Lib.hid hS
      rw [hS] at HP HQ2
      clear hS hSn
      obtain ⟨y, hy⟩ : ∃ y, S.headD 0 = y := ⟨_, rfl⟩
      obtain ⟨b, hbb⟩ : ∃ b, (!S.isEmpty) = b := ⟨_, rfl⟩
      rw [hy, hbb] at HP
      have HY := Lib.hid hy
      have HBB := Lib.hid hbb
      clear hy hbb
      go_wp2_with (fail)
      refine (HP.out).mono ?_
      rintro e w3 ⟨rfl, F2, hq3, ht3, hF3⟩
      have HQ3 := Lib.hid hq3
      have HT3 := Lib.hid (HT2.out.trans ht3 (fun k _ h => HF1.out k h))
      have HF3 : Hid (∀ k, F2 k → w.heap.size ≤ k) := fun k h => by
        rcases hF3 k h with h | h
        · exact HF1.out k h
        · have := HT2.out.size; omega
      have HOW3 := Lib.hid (HOW.out.turned_ ht3 (fun k h1 h2 => HAP.out k h2 h1))
      have hr3 : rb < w2.heap.size := (HOW.out.lt_ rb rfl).2
      have HAP3 : Hid (∀ k, F2 k → (some rb : Option Nat) ≠ some k) := fun k h => by
        rcases hF3 k h with h | h
        · exact HAP.out k h
        · intro e; have e := Option.some.inj e; omega
      clear hq3 ht3 hF3 HP HQ2 HT2 HOW HAP hr3 HG2
      clear hk hlt g1 HT HF1
      go_wp2
      go_loopw [8, 9, 10] (fun sv xv bv wr => ∃ (k : Nat) (A' : Option Addr) (c' : Nat) (F1 : Nat → Prop) (y : Int) (b : Bool), k ≤ n ∧ sv = .slice A' k c' ∧ xv = .int .i64 y ∧ bv = .bool b ∧ Hid (b = decide (k < n)) ∧ Hid (k < n → S[k]? = some y) ∧ Hid (IsQI wr F1 qb fn caps lt (S.drop (k + 1)) n) ∧ Hid (OwnL iK wr w.heap.size (.slice A' k c') (S.take k)) ∧ Hid (∀ j, F1 j → (Value.slice A' k c').ownBlock ≠ some j) ∧ Hid (∀ k, F1 k → w.heap.size ≤ k) ∧ Turned (fun k => w.heap.size ≤ k) w wr) (fun sv _ _ _ => n - (qlen sv))
      case atStart =>
        refine ⟨0, _, _, F2, y, b, Nat.zero_le _, rfl, rfl, rfl, ?_, ?_, ?_, HOW3.out, HAP3.out, HF3.out, HT3.out⟩
        · have h1 := HBB.out
          have h2 := HSN.out
          unfold Hid
          rw [← h1, ← h2]
          cases S <;> simp
        · intro h0
          have h1 := HY.out
          have h2 := HSN.out
          cases S with
          | nil => simp at h2; omega
          | cons a r => simp at h1; rw [← h1]; rfl
        · have h1 := HQ3.out
          unfold Hid
          rw [Nat.zero_add, List.drop_one]
          exact h1
      case round =>
        obtain ⟨k, A', c', F3, y1, b1, hk, rfl, rfl, rfl, HB1, HY1, HQ4, HO4, HAP4, HF4, ht⟩ := hrel
        have HT4 := Lib.hid ht
        clear ht HQ3 HT3 HF3 HOW3 HAP3 HY HBB
        by_cases hlt : k < n
        · have hbt : b1 = true := by rw [HB1.out]; exact decide_eq_true hlt
          subst hbt
          have hy1 := HY1.out hlt
          have hyo : iK.ok y1 := by
            have h1 : y1 ∈ Qu.sorted lt l := by rw [HSE.out]; exact List.mem_of_getElem? hy1
            exact HL.out.ok_ y1 ((Qu.sorted_perm l).mem_iff.1 h1)
          obtain ⟨T, hT⟩ : ∃ T, S.take k = T := ⟨_, rfl⟩
          have HTL : Hid (T.length = k) := by unfold Hid; rw [← hT, List.length_take]; have := HSN.out; omega
          have HTN : Hid (S.take (k + 1) = T ++ [y1]) := by unfold Hid; rw [take_snoc hy1, hT]
          rw [hT] at HO4
          have hbase : w.heap.size ≤ wr.heap.size := HT4.out.size
          have hlt4 := HQ4.out.lt_
          have hgoK : k < 4194304 := by have := HK1.out; omega
          have HLT := Lib.hid hlt
          have HYO := Lib.hid hyo
          clear hT hy1 HY1 HB1 hyo
          go_wp2_with (at_builtin; go_must (refine wpList_push_m _ iK rfl _ _ rfl w.heap.size _ rfl T HO4.out rfl y1 HYO.out _ rfl _ rfl (by rw [HTL.out]; show _ * 8 ≤ _; omega) (by rw [HTL.out]; simp only [maxLen]; omega) hbase ?_; intro A9 c9 w5 hA hG hM))
          rw [HTL.out] at hA hM
          rw [HTL.out]
          have HG5 := Lib.hid (Turned.of_grown hG)
          have HQ5 := Lib.hid (HQ4.out.turned_ HG5.out (fun j _ h1 h2 => HAP4.out j h1 h2))
          have HT5 := Lib.hid (HT4.out.trans HG5.out (fun j h1 h2 => (HO4.out.lt_ j h2).1))
          have HAP5 : Hid (∀ j, F3 j → (Value.slice A9 (k + 1) c9).ownBlock ≠ some j) := fun j h1 h2 => by
            rcases hM j h2 with h | h
            · exact HAP4.out j h1 h
            · have := hlt4 j h1; omega
          have HO5 := Lib.hid hA
          have HAL : Hid (∀ j, (Value.slice A9 (k + 1) c9).ownBlock = some j → j < w5.heap.size) := fun j h => (hA.lt_ j h).2
          clear hA hG hM hbase HG5 HQ4 HT4 HO4 HAP4 hlt4
          have HP := Lib.hid (ppopI HQ5.out HO.out (HLE.out.step HT5.out (fun k _ h => HF4.out k h)) HK1.out)
          change Hid (Calls _ _ _ _ (fun e w' => e = .returned (.tuple #[.int .i64 (List.headD _ 0), _]) ∧ _)) at HP
          obtain ⟨y2, hy2⟩ : ∃ y, (S.drop (k + 1)).headD 0 = y := ⟨_, rfl⟩
          obtain ⟨b2, hb2⟩ : ∃ b, (!(S.drop (k + 1)).isEmpty) = b := ⟨_, rfl⟩
          have htl : (S.drop (k + 1)).tail = S.drop (k + 1 + 1) := by rw [List.tail_drop]
          rw [hy2, hb2, htl] at HP
          have HB2 : Hid (b2 = decide (k + 1 < n)) := by
            unfold Hid
            rw [← hb2, ← HSN.out]
            cases h : S.drop (k + 1) with
            | nil =>
              have := congrArg List.length h
              simp at this
              simp; omega
            | cons a r =>
              have := congrArg List.length h
              simp at this
              simp; omega
          have HY2 : Hid (k + 1 < n → S[k + 1]? = some y2) := fun h0 => by
            rw [← hy2]
            have h1 : k + 1 < S.length := by rw [HSN.out]; exact h0
            rw [List.drop_eq_getElem_cons h1, List.getElem?_eq_getElem h1]
            rfl
          clear hy2 hb2 htl
          go_wp2_with (fail)
          refine (HP.out).mono ?_
          rintro e w6 ⟨rfl, F6, hq6, ht6, hF6⟩
          have HQ6 := Lib.hid hq6
          have HT6 := Lib.hid (HT5.out.trans ht6 (fun k _ h => HF4.out k h))
          have HF6 : Hid (∀ k, F6 k → w.heap.size ≤ k) := fun k h => by
            rcases hF6 k h with h | h
            · exact HF4.out k h
            · have := HT5.out.size; omega
          have HO6 : Hid (OwnL iK w6 w.heap.size (.slice A9 (k + 1) c9) (S.take (k + 1))) := by
            unfold Hid
            rw [HTN.out]
            exact HO5.out.turned_ ht6 (fun k h1 h2 => HAP5.out k h2 h1)
          have HAP6 : Hid (∀ j, F6 j → (Value.slice A9 (k + 1) c9).ownBlock ≠ some j) := fun j h => by
            rcases hF6 j h with h | h
            · exact HAP5.out j h
            · intro e; have := HAL.out j e; omega
          clear hq6 ht6 hF6 HP HQ5 HT5 HO5 HAP5 HAL
          go_wp2
          exact ⟨⟨k + 1, A9, c9, F6, y2, b2, by have := HLT.out; omega, rfl, rfl, rfl, HB2.out, HY2.out, HQ6.out, HO6.out, HAP6.out, HF6.out, HT6.out⟩, by have := HLT.out; simp [qlen]; omega⟩
        · have hbf : b1 = false := by rw [HB1.out]; exact decide_eq_false hlt
          subst hbf
          have hkn : k = n := by omega
          have HOS : Hid (OwnL iK wr w.heap.size (.slice A' S.length c') S) := by
            have := HO4.out
            rw [hkn, List.take_of_length_le (by have := HSN.out; omega)] at this
            unfold Hid
            rw [HSN.out]
            exact this
          have HKS : Hid (k = S.length) := by unfold Hid; rw [HSN.out]; exact hkn
          clear hkn
          have HE : Hid (IsL1 iK (Qu.sorted lt l) w (.returned (.slice A' k c')) wr) := by
            unfold Hid
            rw [HSE.out]
            exact ⟨A', c', by rw [HKS.out], HOS.out, HT4.out.below (Nat.le_refl _) (fun _ h => h)⟩
          clear HOS HKS HO4 HQ4
          go_wp2
          go_ret
          exact HE.out
end Go.Proofs.Ytiogmgpkaiicpaa
