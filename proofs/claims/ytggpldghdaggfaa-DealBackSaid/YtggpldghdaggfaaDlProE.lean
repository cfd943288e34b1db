/-
  deal.drawSteps.
-/
import Derived.Test.YtggpldghdaggfaaDlProA
import Derived.Test.YtggpldghdaggfaaDlProB
import Derived.Test.YtggpldghdaggfaaRDlC
import Derived.Test.YtggpldghdaggfaaDrProB
namespace Go.Proofs.Ytggpldghdaggfaa
open Go.RowKit
set_option linter.unusedVariables false

set_option maxHeartbeats 2000000 in
theorem pdraw_any (s : W64) (n : Nat) (w : World) (hn : n ≤ 65536) :
    Calls Try.prog 33 #[.int .u64 (nl s : Nat), .int .i64 (n : Nat)] w (IsL1 iK (Dl.seedSteps s (n - 1)) w) := by
  obtain ⟨m, hm⟩ : ∃ m : Nat, m = n - 1 := ⟨_, rfl⟩
  have HC1 := Lib.hid (fun w => pcount_any n m hn hm w)
  have HP := Lib.hid (fun w => pplaces_any (n : Int) (by omega) (by omega) w)
  have HN : Hid (0 < m → (n : Int) - 1 = (m : Int)) := by unfold Hid; omega
  rw [← hm]
  have HSL := Lib.hid (Dl.seedSteps_len s m)
  have hm2 : m ≤ 65536 := by omega
  have HB0 : Hid (∀ (s : W64) (i : Nat) w, i < 65536 → Calls Try.prog 43 #[.int .u64 (nl s : Nat), .int .u64 ((i : Int) + 1 + 1)] w (fun e w' => e = .returned (.tuple #[.int .u64 (Dl.drawn s (i + 2) : Nat), .int .u64 (nl (Dl.after s (i + 2)) : Nat), .int .i64 0]) ∧ w = w')) := fun s i w hi => by
    have h := pbelow_any s (BitVec.ofNat 64 (i + 2)) w
    rw [Dl.below_drawn s (by omega) (by omega), nl_of (by omega)] at h
    have e : (((i + 2 : Nat)) : Int) = (i : Int) + 1 + 1 := by omega
    rw [e] at h
    exact h
  clear hm
  go_enter Try.func33, Try.ntmps33
  go_wp2_with (fail)
  refine (HP.out _).mono ?_
  rintro e w1 ⟨C, rfl, hC, hcell, hb⟩
  have HB := Lib.hid hb
  have HCC := Lib.hid hcell
  have hCb := hb.size
  clear hb hcell
  go_wp2_with (fail)
  refine (HC1.out _).mono ?_
  rintro e w3 ⟨rfl, rfl⟩
  go_wp2_with (at_make; go_must (refine wpList_make_l _ iK rfl _ _ rfl w1.heap.size .i64 .i64 _ _ m m rfl rfl rfl rfl (Nat.le_refl _) (by show 8 * _ ≤ _; omega) (by simp only [maxLen]; omega) (Nat.le_refl _) ?_; intro w2 hO hG))
  have HO := Lib.hid hO
  have HB2 := Lib.hid ((Below.refl w1.heap.size w1).grown hG (Nat.le_refl _) (by intro k hk; cases hk))
  clear hO hG
  go_wp2_with (fail)
  refine (HC1.out _).mono ?_
  rintro e w3 ⟨rfl, rfl⟩
  go_wp2
  go_loopw [6, 20] (fun sv i wr => ∃ (k : Nat) (s' : W64) (t : List Int), k ≤ m ∧ i = .int .i64 k ∧ sv = .int .u64 (nl s' : Nat) ∧ Hid (t.length = m) ∧ Hid (t.take k ++ Dl.seedSteps s' (m - k) = Dl.seedSteps s m) ∧ Hid (OwnL iK wr w1.heap.size (.slice (some ⟨w1.heap.size, 0, none⟩) m m) t) ∧ Below w1.heap.size w1 wr) (fun _ i _ => m - (intOf i).toNat)
  case atStart => exact ⟨0, s, List.replicate m 0, by omega, rfl, rfl, by simp [Hid], rfl, HO.out, HB2.out⟩
  case round =>
    obtain ⟨k, s', t, hk, rfl, rfl, HTl, HE, HT, hbr⟩ := hrel
    have HBW := Lib.hid (HB.out.trans (hbr.mono hCb))
    clear HO HB2
    by_cases hlt : k < m
    · obtain ⟨i, hi⟩ : ∃ i, m - k = i + 1 := ⟨m - k - 1, by omega⟩
      have hN := HN.out (by omega)
      have he := HE.out
      rw [hi, Dl.seedSteps] at he
      have hcc : wr.cell? ⟨C, 0, none⟩ = some (.int .i64 ((n : Int) - 1)) := (hbr.cell (p := ⟨C, 0, none⟩) hC).trans HCC.out
      have HPl := Lib.hid ((pplace_any C ((n : Int) - 1) (k : Int) wr hcc (by omega) (by omega) (by omega) (by omega)))
      rw [show ((n : Int) - 1) - (k : Int) = (i : Int) + 1 by omega] at HPl
      have hdl := Dl.drawn_lt s' (m := i + 2) (by omega)
      have HC := Lib.hid (HB0.out s' i wr (by omega))
      obtain ⟨d, hd⟩ : ∃ d, Dl.drawn s' (i + 2) = d := ⟨_, rfl⟩
      obtain ⟨s2, hs2⟩ : ∃ s2, Dl.after s' (i + 2) = s2 := ⟨_, rfl⟩
      rw [hd, hs2] at HC he
      rw [hd] at hdl
      have hkt : k < t.length := by rw [HTl.out]; exact hlt
      have HE2 : Hid ((t.set k (d : Int)).take (k + 1) ++ Dl.seedSteps s2 (m - (k + 1)) = Dl.seedSteps s m) := by unfold Hid; rw [take_set_snoc hkt, List.append_assoc, show m - (k + 1) = i by omega]; exact he
      have hw0 : IntKind.u64.wrap ((i : Int) + 1) = (i : Int) + 1 := by rw [IntKind.wrap_u64]; omega
      have hw1 : IntKind.u64.wrap ((i : Int) + 1 + 1) = (i : Int) + 1 + 1 := by rw [IntKind.wrap_u64]; omega
      have hw2 : IntKind.i64.wrap (d : Int) = (d : Int) := by rw [IntKind.wrap_i64]; omega
      have hdI : I64 (d : Int) := i64_nat (by omega)
      have HTl2 : Hid ((t.set k (d : Int)).length = m) := by unfold Hid; rw [List.length_set]; exact HTl.out
      obtain ⟨z, _, hc2⟩ := HT.out.was_ hkt
      have hfr := HT.out.cool_ k
      obtain ⟨hs1, hg2⟩ := HT.out.setInt_ hkt hdI
      have HS := Lib.hid hs1
      have HB3 := Lib.hid (hbr.setCell (p := ⟨w1.heap.size, k, none⟩) (Nat.le_refl _) (.int .i64 (d : Int)))
      have hkm : (k : Int) < (m : Int) := by omega
      have HK : Hid (k + 1 ≤ m) := by unfold Hid; omega
      clear he hd hs2 HE hdl hcc hN hs1 hg2 HT hkt HTl hdI hi
      go_wp2_with (fail)
      refine (HPl.out).mono ?_
      rintro e w4 ⟨rfl, rfl⟩
      go_wp2_with (fail)
      refine (HC.out).mono ?_
      rintro e w5 ⟨rfl, rfl⟩
      clear HC HPl
      go_wp2
      exact ⟨⟨k + 1, s2, t.set k (d : Int), HK.out, by go_num, rfl, HTl2.out, HE2.out, HS.out, HB3.out⟩, by simp [intOf]; omega⟩
    · have he := HE.out
      rw [show m - k = 0 by omega, Dl.seedSteps, List.append_nil, List.take_of_length_le (by rw [HTl.out]; omega)] at he
      subst he
      have hkm : ¬ (k : Int) < (m : Int) := by omega
      clear HE
      go_wp2
      go_ret
      exact ⟨some ⟨w1.heap.size, 0, none⟩, m, by rw [HSL.out]; rfl, by rw [HSL.out]; exact HT.out.mono_ hCb, HBW.out⟩
end Go.Proofs.Ytggpldghdaggfaa
