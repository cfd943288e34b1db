/-
  stookref07.Rank, Push, Sorted.
-/
import Derived.Test.YtiogmgpkaiicpaaKInt
import Derived.Test.YtiogmgpkaiicpaaLAns
import Derived.Test.YtiogmgpkaiicpaaMem
import Derived.Test.YtiogmgpkaiicpaaCutL
import Derived.Test.YtiogmgpkaiicpaaQuMath
namespace Go.Proofs.Ytiogmgpkaiicpaa
open Go.RowKit
set_option linter.unusedVariables false

theorem iK_elem : Try.prog.elem iK.s = iK.e := by kernel_rfl
theorem tmod_i64 {x b : Int} (hx : I64 x) (hb : I64 b) (h0 : b ≠ 0) : I64 (x.tmod b) := by
  have h := Int.natAbs_tmod x b
  have h2 : x.natAbs % b.natAbs < b.natAbs := Nat.mod_lt _ (by omega)
  unfold I64 at *
  omega

/-- A number, told, and nothing turned at all. -/
def IsI (n : Int) (w : World) (e : Ending) (w' : World) : Prop := e = .returned (.int .i64 n) ∧ w = w'
set_option maxHeartbeats 400000 in
theorem rrank_any (x b : Int) (hx : I64 x) (hb : I64 b) (w : World) : Calls Try.prog 12 #[.int .i64 x, .int .i64 b] w (IsI (Qu.rank x b) w) := by
  by_cases h0 : b = 0
  · subst h0
    go_enter Try.func12, Try.ntmps12
    go_wp2
    go_ret
    exact ⟨by rw [Qu.rank, if_pos rfl]; rfl, rfl⟩
  · have HX : Hid (Qu.rank x b = x.tmod b) := by unfold Hid Qu.rank; rw [if_neg h0]
    have hw := i64_wrap (tmod_i64 hx hb h0)
    have hz : (b == 0) = false := by rw [beq_eq_false_iff_ne]; exact h0
    clear hx hb
    go_enter Try.func12, Try.ntmps12
    go_wp2
    go_ret
    exact ⟨by rw [HX.out]; rfl, rfl⟩

namespace Qu
theorem ltR_iff (b x y : Int) : ltR b x y = decide (rank x b < rank y b) := rfl
theorem ins_at {lt : Int → Int → Bool} {l : List Int} {k : Nat} {y x : Int} (h : l[k]? = some y) (hn : lt x y = false) : ins lt (l.drop k) x = y :: ins lt (l.drop (k + 1)) x := by
  rw [drop_at h, ins_cons, if_neg (by rw [hn]; simp)]
theorem ins_here {lt : Int → Int → Bool} {l : List Int} {k : Nat} {x : Int} (h : l.length ≤ k ∨ ∃ y, l[k]? = some y ∧ lt x y = true) : ins lt (l.drop k) x = x :: l.drop k := by
  rcases h with h | ⟨y, hy, hl⟩
  · rw [List.drop_of_length_le h]; rfl
  · rw [drop_at hy, ins_cons, if_pos hl]
end Qu

set_option maxHeartbeats 2000000 in
theorem rpush_any (v : Value) (l : List Int) (x b : Int) (B : Nat) (w : World) (hB : B ≤ w.heap.size) (h : Lv iK w B v l) (hx : I64 x) (hb : I64 b) (hsz : l.length ≤ 17592186044000) :
    Calls Try.prog 14 #[v, .int .i64 x, .int .i64 b] w (IsL1 iK (Qu.ins (Qu.ltR b) l x) w) := by
  have H0 := Lib.hid h
  obtain ⟨A, c, rfl, h1, h2, _⟩ := h
  have HC := Lib.hid h1
  have HX := Lib.hid hx
  have HRx := Lib.hid (fun w => rrank_any x b hx hb w)
  have HRa : Hid (∀ y, I64 y → ∀ w, Calls Try.prog 12 #[.int .i64 y, .int .i64 b] w (IsI (Qu.rank y b) w)) := fun y hy w => rrank_any y b hy hb w
  have HSZ := Lib.hid hsz
  obtain ⟨rx, hrx⟩ : ∃ rx, Qu.rank x b = rx := ⟨_, rfl⟩
  have HLT : Hid (∀ y, Qu.ltR b x y = decide (rx < Qu.rank y b)) := by unfold Hid; intro y; rw [Qu.ltR_iff, hrx]
  rw [hrx] at HRx
  obtain ⟨lt, hlt⟩ : ∃ lt, Qu.ltR b = lt := ⟨_, rfl⟩
  rw [hlt] at HLT ⊢
  clear h1 h2 hx hb hrx hlt
  have hl : l.length ≤ 9223372036854775807 := by omega
  clear hsz
  go_enter Try.func14, Try.ntmps14
  go_wp2
  go_loopw [7] (fun i wr => ∃ k : Nat, k ≤ l.length ∧ i = .int .i64 k ∧ Hid (Qu.ins lt l x = l.take k ++ Qu.ins lt (l.drop k) x) ∧ wr = w) (fun i _ => l.length - (intOf i).toNat)
  case atStart => exact ⟨0, by omega, rfl, rfl, rfl⟩
  case round =>
    obtain ⟨k, hk, rfl, HT, rfl⟩ := hrel
    have HP := Lib.hid (show l.length ≤ k ∨ k < l.length by omega)
    by_cases hgo : k < l.length ∧ ∃ y, l[k]? = some y ∧ lt x y = false
    · obtain ⟨hlt, y, hy, hn⟩ := hgo
      obtain ⟨bb, o, y', rfl, hbb, hyI, hy', hcell⟩ := H0.out.int_ hlt
      rw [hy] at hy'
      obtain rfl := (Option.some.inj hy')
      have HT2 : Hid (Qu.ins lt l x = l.take (k + 1) ++ Qu.ins lt (l.drop (k + 1)) x) := by
        unfold Hid
        rw [HT.out, Qu.ins_at hy hn, take_snoc hy]
        simp
      have HRy := Lib.hid (HRa.out y hyI wr)
      rw [HLT.out y, decide_eq_false_iff_not] at hn
      obtain ⟨ry, hry⟩ : ∃ ry, Qu.rank y b = ry := ⟨_, rfl⟩
      rw [hry] at HRy hn
      have hle : ry ≤ rx := by omega
      clear hy hy' hyI hn hry HT
      go_wp2_with (fail)
      refine (HRy.out).mono ?_
      rintro e w1 ⟨rfl, rfl⟩
      go_wp2_with (fail)
      refine (HRx.out _).mono ?_
      rintro e w1 ⟨rfl, rfl⟩
      go_wp2
      exact ⟨⟨k + 1, by omega, by go_num, HT2.out, trivial⟩, by simp [intOf]; omega⟩
    · by_cases hlt : k < l.length
      · obtain ⟨bb, o, y, rfl, hbb, hyI, hy, hcell⟩ := H0.out.int_ hlt
        have hn : lt x y = true := by
          cases e : lt x y with
          | true => rfl
          | false => exact absurd ⟨hlt, y, hy, e⟩ hgo
        have HWY : l.length ≤ k ∨ ∃ y, l[k]? = some y ∧ lt x y = true := .inr ⟨y, hy, hn⟩
        have HRy := Lib.hid (HRa.out y hyI wr)
        rw [HLT.out y, decide_eq_true_eq] at hn
        obtain ⟨ry, hry⟩ : ∃ ry, Qu.rank y b = ry := ⟨_, rfl⟩
        rw [hry] at HRy hn
        have hle : ¬ ry ≤ rx := by omega
        generalize hA0 : (some (⟨bb, o, none⟩ : Addr)) = A at *
        have HI0 := Qu.ins_here (lt := lt) (l := l) (k := k) (x := x) HWY
        have HI1 := HT.out
        rw [HI0] at HI1
        obtain ⟨t, ht⟩ : ∃ t, l.take k = t := ⟨_, rfl⟩
        obtain ⟨d, hd⟩ : ∃ d, l.drop k = d := ⟨_, rfl⟩
        rw [ht, hd] at HI1
        have HI : Hid (t ++ x :: d = Qu.ins lt l x) := HI1.symm
        have htk := H0.out.take_ (k := k) hk
        obtain ⟨A', f1, f2, f3, _⟩ := cut_from iK iK_elem A l.length c k hk HC.out
        have g1 := cut_to iK iK_elem A l.length c k (Nat.le_trans hk HC.out)
        have g2 := cutAt_to iK iK_elem A l.length c k (Nat.le_trans hk HC.out)
        have HF := Lib.hid f3
        have htl : t.length = k := by rw [← ht, List.length_take]; omega
        have hdl : d.length = l.length - k := by rw [← hd, List.length_drop]
        have HL : Hid (t.length + d.length ≤ 17592186044000) := by have := HSZ.out; unfold Hid; omega
        obtain ⟨dn, hdn⟩ : ∃ dn, l.length - k = dn := ⟨_, rfl⟩
        rw [hdn] at f1 f2 HF
        have HDe := Lib.hid hd
        rw [ht] at htk
        have HTK := Lib.hid htk
        change ∀ w, (Instr.slice 27 (.slice A l.length c) none (some (.int .i64 (k : Nat))) none).run Try.prog w = _ at g1
        change ∀ w, (Instr.sliceAt 27 (.slice A l.length c) none (some (.int .i64 (k : Nat))) none).run Try.prog w = _ at g2
        change ∀ w, (Instr.slice 27 (.slice A l.length c) (some (.int .i64 (k : Nat))) none none).run Try.prog w = _ at f1
        change ∀ w, (Instr.sliceAt 27 (.slice A l.length c) (some (.int .i64 (k : Nat))) none none).run Try.prog w = _ at f2
        clear HI0 HI1 ht hd f3 htk htl hdl hdn HT
        clear hy hyI hn hry HWY hgo
        subst hA0
        go_wp2_with (fail)
        refine (HRy.out).mono ?_
        rintro e w1 ⟨rfl, rfl⟩
        go_wp2_with (fail)
        refine (HRx.out _).mono ?_
        rintro e w1 ⟨rfl, rfl⟩
        have hbase1 : wr.heap.size ≤ wr.heap.size := Nat.le_refl _
        go_wp2_with (at_builtin; go_must (refine wpList_append_l _ iK rfl _ _ rfl wr.heap.size (.slice none 0 0) rfl [] (OwnL.nil_ _ _ _) (.slice (some ⟨bb, o, none⟩) k c) rfl B t HTK.out (by have := HL.out; show _ * 8 ≤ _; simp only [List.length_nil]; omega) (by have := HL.out; simp only [List.length_nil, maxLen]; omega) (Nat.le_refl _) ?_))
        intro A1 c1 w1 hA hG
        have HG1 := Lib.hid ((Below.refl wr.heap.size wr).grown hG (Nat.le_refl _) (by intro k hk; cases hk))
        have HA1 := Lib.hid hA
        clear hA hG
        go_wp2_with (at_builtin; go_must (refine wpList_push_l _ iK rfl _ _ rfl wr.heap.size (.slice A1 t.length c1) rfl t HA1.out rfl x HX.out _ rfl _ rfl (by have := HL.out; show _ * 8 ≤ _; omega) (by have := HL.out; simp only [maxLen]; omega) HG1.out.size ?_))
        intro A2 c2 w2 hA hG
        have HG2 := Lib.hid (HG1.out.grown hG HG1.out.size (fun k hk => (HA1.out.lt_ k hk).1))
        have HA2 := Lib.hid hA
        have HD2 := Lib.hid ((HF.out wr B l H0.out).below_ HG2.out hB)
        rw [HDe.out] at HD2
        clear hA hG HG1 HA1
        go_wp2_with (at_builtin; go_must (refine wpList_append_l _ iK rfl _ _ rfl wr.heap.size (.slice A2 (t.length + 1) c2) rfl (t ++ [x]) HA2.out (.slice A' dn (c - k)) rfl B d HD2.out (by have := HL.out; show _ * 8 ≤ _; simp only [List.length_append, List.length_singleton]; omega) (by have := HL.out; simp only [List.length_append, List.length_singleton, maxLen]; omega) HG2.out.size ?_))
        intro A3 c3 w3 hA hG
        have HG3 := Lib.hid (HG2.out.grown hG HG2.out.size (fun k hk => (HA2.out.lt_ k hk).1))
        have HA3 := Lib.hid hA
        clear hA hG HG2 HA2
        go_wp2
        go_ret
        exact ⟨A3, c3, by rw [← HI.out]; simp, by rw [← HI.out]; simpa using HA3.out, HG3.out⟩
      · have HWY : l.length ≤ k ∨ ∃ y, l[k]? = some y ∧ lt x y = true := .inl (by omega)
        have HI0 := Qu.ins_here (lt := lt) (l := l) (k := k) (x := x) HWY
        have HI1 := HT.out
        rw [HI0] at HI1
        obtain ⟨t, ht⟩ : ∃ t, l.take k = t := ⟨_, rfl⟩
        obtain ⟨d, hd⟩ : ∃ d, l.drop k = d := ⟨_, rfl⟩
        rw [ht, hd] at HI1
        have HI : Hid (t ++ x :: d = Qu.ins lt l x) := HI1.symm
        have htk := H0.out.take_ (k := k) hk
        obtain ⟨A', f1, f2, f3, _⟩ := cut_from iK iK_elem A l.length c k hk HC.out
        have g1 := cut_to iK iK_elem A l.length c k (Nat.le_trans hk HC.out)
        have g2 := cutAt_to iK iK_elem A l.length c k (Nat.le_trans hk HC.out)
        have HF := Lib.hid f3
        have htl : t.length = k := by rw [← ht, List.length_take]; omega
        have hdl : d.length = l.length - k := by rw [← hd, List.length_drop]
        have HL : Hid (t.length + d.length ≤ 17592186044000) := by have := HSZ.out; unfold Hid; omega
        obtain ⟨dn, hdn⟩ : ∃ dn, l.length - k = dn := ⟨_, rfl⟩
        rw [hdn] at f1 f2 HF
        have HDe := Lib.hid hd
        rw [ht] at htk
        have HTK := Lib.hid htk
        change ∀ w, (Instr.slice 27 (.slice A l.length c) none (some (.int .i64 (k : Nat))) none).run Try.prog w = _ at g1
        change ∀ w, (Instr.sliceAt 27 (.slice A l.length c) none (some (.int .i64 (k : Nat))) none).run Try.prog w = _ at g2
        change ∀ w, (Instr.slice 27 (.slice A l.length c) (some (.int .i64 (k : Nat))) none none).run Try.prog w = _ at f1
        change ∀ w, (Instr.sliceAt 27 (.slice A l.length c) (some (.int .i64 (k : Nat))) none none).run Try.prog w = _ at f2
        clear HI0 HI1 ht hd f3 htk htl hdl hdn HT
        clear HWY hgo
        have hbase1 : wr.heap.size ≤ wr.heap.size := Nat.le_refl _
        go_wp2_with (at_builtin; go_must (refine wpList_append_l _ iK rfl _ _ rfl wr.heap.size (.slice none 0 0) rfl [] (OwnL.nil_ _ _ _) (.slice A k c) rfl B t HTK.out (by have := HL.out; show _ * 8 ≤ _; simp only [List.length_nil]; omega) (by have := HL.out; simp only [List.length_nil, maxLen]; omega) (Nat.le_refl _) ?_))
        intro A1 c1 w1 hA hG
        have HG1 := Lib.hid ((Below.refl wr.heap.size wr).grown hG (Nat.le_refl _) (by intro k hk; cases hk))
        have HA1 := Lib.hid hA
        clear hA hG
        go_wp2_with (at_builtin; go_must (refine wpList_push_l _ iK rfl _ _ rfl wr.heap.size (.slice A1 t.length c1) rfl t HA1.out rfl x HX.out _ rfl _ rfl (by have := HL.out; show _ * 8 ≤ _; omega) (by have := HL.out; simp only [maxLen]; omega) HG1.out.size ?_))
        intro A2 c2 w2 hA hG
        have HG2 := Lib.hid (HG1.out.grown hG HG1.out.size (fun k hk => (HA1.out.lt_ k hk).1))
        have HA2 := Lib.hid hA
        have HD2 := Lib.hid ((HF.out wr B l H0.out).below_ HG2.out hB)
        rw [HDe.out] at HD2
        clear hA hG HG1 HA1
        go_wp2_with (at_builtin; go_must (refine wpList_append_l _ iK rfl _ _ rfl wr.heap.size (.slice A2 (t.length + 1) c2) rfl (t ++ [x]) HA2.out (.slice A' dn (c - k)) rfl B d HD2.out (by have := HL.out; show _ * 8 ≤ _; simp only [List.length_append, List.length_singleton]; omega) (by have := HL.out; simp only [List.length_append, List.length_singleton, maxLen]; omega) HG2.out.size ?_))
        intro A3 c3 w3 hA hG
        have HG3 := Lib.hid (HG2.out.grown hG HG2.out.size (fun k hk => (HA2.out.lt_ k hk).1))
        have HA3 := Lib.hid hA
        clear hA hG HG2 HA2
        go_wp2
        go_ret
        exact ⟨A3, c3, by rw [← HI.out]; simp, by rw [← HI.out]; simpa using HA3.out, HG3.out⟩

set_option maxHeartbeats 1000000 in
theorem rsorted_any (v : Value) (l : List Int) (b : Int) (B : Nat) (w : World) (hB : B ≤ w.heap.size) (h : Lv iK w B v l) (hb : I64 b) (hsz : l.length ≤ 17592186044000) :
    Calls Try.prog 22 #[v, .int .i64 b] w (IsL1 iK (Qu.sorted (Qu.ltR b) l) w) := by
  have H0 := Lib.hid h
  obtain ⟨A, c, rfl, h1, h2, _⟩ := h
  have HSZ := Lib.hid hsz
  have HPU : Hid (∀ (v : Value) (m : List Int) (x : Int) (w : World), Lv iK w w.heap.size v m → I64 x → m.length ≤ 17592186044000 → Calls Try.prog 14 #[v, .int .i64 x, .int .i64 b] w (IsL1 iK (Qu.ins (Qu.ltR b) m x) w)) := fun v m x w h hx hm => rpush_any v m x b _ w (Nat.le_refl _) h hx hb hm
  obtain ⟨lt, hlt⟩ : ∃ lt, Qu.ltR b = lt := ⟨_, rfl⟩
  rw [hlt] at HPU ⊢
  have hl : l.length ≤ 9223372036854775807 := by omega
  clear h1 h2 hsz hb hlt
  go_enter Try.func22, Try.ntmps22
  go_wp2
  go_loopw [5, 6] (fun u i wr => ∃ k : Nat, k ≤ l.length ∧ i = .int .i64 k ∧ Hid (OwnL iK wr w.heap.size u (Qu.sorted lt (l.take k))) ∧ Below w.heap.size w wr) (fun _ i _ => l.length - (intOf i).toNat)
  case atStart => exact ⟨0, by omega, rfl, OwnL.nil_ _ _ _, Below.refl _ _⟩
  case round =>
    obtain ⟨k, hk, rfl, HT, hbr⟩ := hrel
    have hbase : w.heap.size ≤ wr.heap.size := hbr.size
    by_cases hlt : k < l.length
    · obtain ⟨bb, o, y, rfl, hbb, hyI, hy, hcell⟩ := (H0.out.below_ hbr hB).int_ hlt
      have hsl : (Qu.sorted lt (l.take k)).length ≤ 17592186044000 := by rw [Qu.sorted_len, List.length_take]; have := HSZ.out; omega
      have HS : Hid (Qu.ins lt (Qu.sorted lt (l.take k)) y = Qu.sorted lt (l.take (k + 1))) := by unfold Hid; rw [take_snoc hy, Qu.sorted_snoc]
      have HP := Lib.hid (HPU.out _ _ y wr HT.out.form_ hyI hsl)
      rw [HS.out] at HP
      clear hy hyI hsl HS
      go_wp2_with (fail)
      refine (HP.out).mono ?_
      rintro e w1 ⟨A1, c1, rfl, ho, hb1⟩
      have HO := Lib.hid (ho.mono_ hbase)
      have HB := Lib.hid (hbr.trans (hb1.mono hbase))
      clear ho hb1 hbr HP HT
      go_wp2
      exact ⟨⟨k + 1, by omega, by go_num, HO.out, HB.out⟩, by simp [intOf]; omega⟩
    · have ht := HT.out
      rw [List.take_of_length_le (by omega)] at ht
      have HO := Lib.hid ht
      obtain ⟨A1, c1, rfl, _⟩ := ht.form_
      clear ht HT
      go_wp2
      go_ret
      exact ⟨A1, c1, rfl, HO.out, hbr⟩
end Go.Proofs.Ytiogmgpkaiicpaa
