/- Parts of the proof. -/
import Derived.Test.YtiafeniflkikeaaGreatPn41
import Derived.Test.YtiafeniflkikeaaGreatPn43
import Derived.Test.YtiafeniflkikeaaGreatPn03
import Derived.Lib.SlBytesConst
namespace Go.Proofs.YtiafeniflkikeaaGreat
open Go.RowKit
set_option linter.unusedVariables false
def Pp.t1 (F : List Nat) (a : Nat) : Sf.St := { (Sf.new 16384) with files := [⟨F, []⟩], seen := Sf.with_ [] ⟨#[105]⟩ 0, row := [] ++ [Sf.with_ [] ⟨#[105]⟩ 0], acts := a }
theorem Pp.t1_get (F : List Nat) (a : Nat) : Sf.get (Pp.t1 F a) ⟨#[105]⟩ = (0, 0) := by
 unfold Sf.get Pp.t1
 rw [if_neg (by intro h; cases h)]
 have : Sf.find (Sf.with_ [] ⟨#[105]⟩ 0) ⟨#[105]⟩ = some 0 := by decide +kernel
 show (match Sf.find (Sf.with_ [] ⟨#[105]⟩ 0) ⟨#[105]⟩ with | none => (0, 7) | some n => (n, 0)) = (0, 0)
 rw [this]
theorem Pp.t1_file (F : List Nat) (a : Nat) : Sf.now (Sf.fileAt (Pp.t1 F a) 0) = F := rfl
theorem Pp.t1_used (F : List Nat) (a : Nat) : Sf.used (Pp.t1 F a) = F.length := by
 have e : Sf.with_ [] (⟨#[105]⟩ : ByteArray) 0 = [(⟨#[105]⟩, 0)] := rfl
 unfold Sf.used
 rw [if_neg (by intro h; cases h)]
 show Sf.lens (Pp.t1 F a) (Sf.with_ [] ⟨#[105]⟩ 0) = _
 rw [e]
 simp [Sf.lens, Sf.len, Pp.t1_file]
def Pa.two : Pa.M := ⟨Pa.new.root, [⟨2, 2, 9, [97]⟩, ⟨3, 2, 9, [98]⟩], 1024⟩
theorem Pa.two_is : (Pa.add (Pa.add Pa.new 9 [97]).1 9 [98]).1 = Pa.two := by kernel_rfl
theorem Pa.two_com : (Pa.commit Pa.two ⟨0, 2, 0, 0, 1, 0, 0⟩ 15360).2 = 0 := by decide +kernel
theorem Pa.two_read : Pa.read (Pa.commit Pa.two ⟨0, 2, 0, 0, 1, 0, 0⟩ 15360).1.l 3 = (9, [98], 0) := by decide +kernel
theorem Pa.two_seq : (Pa.commit Pa.two ⟨0, 2, 0, 0, 1, 0, 0⟩ 15360).1.root.seq = 2 := by decide +kernel
def oneB (x : Nat) : Obj := .cells #[.int .u8 (x : Nat)] 5 (1, 2)
theorem Bv.oneB_ (w : World) (x : Nat) (hx : x < 256) : Bv (w.alloc (oneB x)) (w.heap.size + 1) (.slice (some ⟨w.heap.size, 0, none⟩) 1 1) [x] := by
 refine ⟨some ⟨w.heap.size, 0, none⟩, 1, rfl, by simp, by simp [maxLen], by simp, by simpa using hx, fun _ => ⟨w.heap.size, 0, rfl, by omega, fun j c hj => ?_⟩⟩
 unfold oneB
 rw [Nat.zero_add, World.cell?_alloc_mark]
 have hl : j < 1 := (List.getElem?_eq_some_iff.1 hj).1
 match j, hl with
 | 0, _ => simp at hj; subst hj; rfl
theorem conv_one (w : World) (x : Nat) : (convert 40 40 (.slice (some ⟨w.heap.size, 0, none⟩) 1 1)).run Tryz.prog (w.alloc (.cells #[.int .u8 (x : Nat)] 5)) = .ok (.slice (some ⟨w.heap.size, 0, none⟩) 1 1) (w.alloc (oneB x)) :=
 Lib.run_convert_bytes_const w 40 5 #[.int .u8 (x : Nat)] 1 1 Tryz.underlying40 Tryz.underlying5
theorem root_seq (u a b c d e f : Value) (w : World) : (Instr.field 34 (.agg #[u, a, b, c, d, e, f]) 0).run Tryz.prog w = .ok u w := by
 simp [Instr.field, go_sem, part, run_underlying Tryz.underlying34, asAgg]
set_option maxHeartbeats 2000000 in
set_option maxRecDepth 100000 in
theorem plives_any (w : World) : Calls Tryz.prog 8 #[] w (IsBool true w) := by
 have hz7 := (zero_of_info (n := 7) rt_zero).1
 have HN := Lib.hid (pnew_any 16384 (by unfold I64; omega) w)
 simp only [show ¬ ((16384 : Int) < 0 ∨ (1048576 : Int) < 16384) by omega, if_false] at HN
 go_enter Tryz.func8, Tryz.ntmps8
 go_wp2_with fail
 refine HN.out.mono ?_
 rintro e w1 ⟨b0, f0, rfl, hD1, hF1, hB1⟩
 have HB1 := Lib.hid hB1
 have HF1 := Lib.hid hF1
 have HMK := Lib.hid (ppmake_any ⟨#[105]⟩ hD1 (by decide +kernel) rfl rfl rfl (by decide +kernel) (by decide) (by show 0 ≤ _; omega))
 clear hD1 hB1 hF1 HN
 go_wp2_with fail
 refine HMK.out.mono ?_
 rintro e w2 ⟨x2, t2, f2, rfl, hD2, hN2, hT2, hac, hcase⟩
 have hu : Sf.used (Sf.new (16384 : Int).toNat) = 0 := rfl
 rcases hcase with ⟨hc, _⟩ | ⟨_, rfl, ht2⟩
 ·exfalso; rw [hu] at hc; exact absurd hc (by decide)
 have e2 : t2 = Pp.t1 Pp.made t2.acts := ht2
 obtain ⟨a2, ha2⟩ : ∃ a, t2.acts = a := ⟨_, rfl⟩
 rw [ha2] at e2 hac
 subst e2
 clear ht2 hu HMK
 have hop := Pp.open_made (Pp.t1_get Pp.made a2) (Pp.t1_file Pp.made a2) 4 (by omega) (by omega)
 have HOP := Lib.hid (ppopen_some ⟨#[105]⟩ 4 hD2 (by decide +kernel) (by unfold I64; omega) _ hop)
 rw [Pp.t1_get, Pp.t1_file] at HOP
 have HD2 := Lib.hid hD2
 have HW2 : Hid (Below w.heap.size w w2) := HB1.out.trans (hT2.below HB1.out.size (fun q hq => HF1.out q (.inl hq)))
 have HF2 : Hid (f2.From w.heap.size) := hN2.from_ HF1.out HB1.out.size
 have HAC : Hid (a2 ≤ 600) := hac
 clear hD2 hN2 hT2 hac hop
 go_wp2_with fail
 refine HOP.out.mono ?_
 rintro e w3 ⟨b3, b, f3, rfl, hP3, hfr3⟩
 have HW3 : Hid (Below w.heap.size w w3) := HW2.out.trans (b3.mono HW2.out.size)
 have HG3 := Lib.hid (Pp.goes_new ⟨#[105]⟩ (4 : Int).toNat)
 have HP3 := Lib.hid hP3
 have HD3 := Lib.hid (pdisk_law.below HD2.out b3)
 have HF3 : Hid (f3.From w2.heap.size) := hfr3
 have HS3 := Lib.hid b3.size
 have HO3 := Lib.hid (Bv.oneB_ w3 97 (by decide))
 have HA3 := Lib.hid (ppadd_any 9 _ [97] _ (ppager_turned HP3.out (alloc_turned w3 (oneB 97)) (fun _ h => h.elim)) (by decide) HO3.out.lv_ (by simp) (fun _ q hq hm => by have e : w3.heap.size = q := Option.some.inj hq; have := ppager_lt HP3.out q (.inl hm); omega))
 have hg3 := HG3.out.add (kd := 9) (b := [97]) (by decide) (by decide)
 have x3 : (Pa.add Pa.new 9 [97]).2 = (2, 0) := by kernel_rfl
 rw [hg3.1, x3] at HA3
 have hcv : (convert 40 40 (.slice (some ⟨w3.heap.size, 0, none⟩) 1 1)).run Tryz.prog (w3.alloc (.cells #[.int .u8 97] 5)) = .ok (.slice (some ⟨w3.heap.size, 0, none⟩) 1 1) (w3.alloc (oneB 97)) := conv_one w3 97
 clear hP3 hfr3 b3 HOP
 go_wp2_with fail
 refine HA3.out.mono ?_
 rintro e w4 ⟨rfl, f4, hP4, hN4, hT4⟩
 obtain ⟨s4, hs4⟩ : ∃ s : Pp.S, ({ (⟨⟨#[105]⟩, Pa.new.root, (4 : Int).toNat, [], 0⟩ : Pp.S) with l := (Pa.add (Pp.asM ⟨⟨#[105]⟩, Pa.new.root, (4 : Int).toNat, [], 0⟩ Pp.made) 9 [97]).1.l } : Pp.S) = s := ⟨_, rfl⟩
 have hn4 : s4.name = ⟨#[105]⟩ ∧ s4.turns = 0 := by rw [← hs4]; exact ⟨rfl, rfl⟩
 have hg4 := hg3.2
 rw [hs4] at hg4 hP4
 have HG4 := Lib.hid hg4
 have HP4 := Lib.hid hP4
 have HF4 : Hid (f4.From w2.heap.size) := hN4.from_ HF3.out (by have := HS3.out; simp; omega)
 have hd2 : f2.Lt w2.heap.size := pdisk_law.lt HD2.out
 have HD4 : Hid (PDisk w4 f2 (Pp.t1 Pp.made a2) b0) := pdisk_law.turned (pdisk_law.alloc HD3.out (oneB 97)) hT4 (hd2.off fun q hq => HF3.out q (.inl hq))
 have HT4 : Hid (Below w2.heap.size w3 w4) := ((Below.refl w2.heap.size w3).alloc HS3.out (oneB 97)).trans (hT4.below (by have := HS3.out; simp; omega) (fun q hq => HF3.out q (.inl hq)))
 have HO4 := Lib.hid (Bv.oneB_ w4 98 (by decide))
 have HA4 := Lib.hid (ppadd_any 9 _ [98] _ (ppager_turned HP4.out (alloc_turned w4 (oneB 98)) (fun _ h => h.elim)) (by decide) HO4.out.lv_ (by simp) (fun _ q hq hm => by have e : w4.heap.size = q := Option.some.inj hq; have := ppager_lt HP4.out q (.inl hm); omega))
 have hg5 := hg4.add (kd := 9) (b := [98]) (by decide) (by decide)
 have x4 : (Pa.add (Pa.add Pa.new 9 [97]).1 9 [98]).2 = (3, 0) := by kernel_rfl
 rw [hg5.1, x4] at HA4
 rw [Pa.two_is] at hg5
 have hcv2 : (convert 40 40 (.slice (some ⟨w4.heap.size, 0, none⟩) 1 1)).run Tryz.prog (w4.alloc (.cells #[.int .u8 98] 5)) = .ok (.slice (some ⟨w4.heap.size, 0, none⟩) 1 1) (w4.alloc (oneB 98)) := conv_one w4 98
 have HS4 : Hid (w3.heap.size ≤ w4.heap.size) := HT4.out.size
 clear hs4 hg3 hg4 hP4 hN4 hT4 hcv HA3 x3 x4 hd2
 go_wp2_with fail
 refine HA4.out.mono ?_
 rintro e w5 ⟨rfl, f5, hP5, hN5, hT5⟩
 obtain ⟨s5, hs5⟩ : ∃ s : Pp.S, ({ s4 with l := (Pa.add (Pp.asM s4 Pp.made) 9 [98]).1.l } : Pp.S) = s := ⟨_, rfl⟩
 have hn5 : s5.name = ⟨#[105]⟩ := by rw [← hs5]; exact hn4.1
 have ht5 : s5.turns = 0 := by rw [← hs5]; exact hn4.2
 have hg6 := hg5.2
 rw [hs5] at hg6 hP5
 have HG5 := Lib.hid hg6
 have HF5 : Hid (f5.From w2.heap.size) := hN5.from_ HF4.out (by have := HS3.out; have := HS4.out; simp; omega)
 have hd2 : f2.Lt w2.heap.size := pdisk_law.lt HD2.out
 have hd5 : PDisk w5 f2 (Pp.t1 Pp.made a2) b0 := pdisk_law.turned (pdisk_law.alloc HD4.out (oneB 98)) hT5 (hd2.off fun q hq => HF4.out q (.inl hq))
 have HT5 : Hid (Below w2.heap.size w4 w5) := ((Below.refl w2.heap.size w4).alloc (by have := HS3.out; have := HS4.out; omega) (oneB 98)).trans (hT5.below (by have := HS3.out; have := HS4.out; simp; omega) (fun q hq => HF4.out q (.inl hq)))
 have HW5 : Hid (Below w.heap.size w w5) := HW3.out.trans ((HT4.out.trans HT5.out).mono HW2.out.size)
 have hr : Rt.Fit ⟨0, 2, 0, 0, 1, 0, 0⟩ := ⟨by decide, by unfold I64; decide, by unfold I64; decide, by decide, by decide, by unfold I64; decide, by unfold I64; decide⟩
 have HCM := Lib.hid (ppcommit_any ⟨0, 2, 0, 0, 1, 0, 0⟩ 0 hP5 hd5 ⟨HF5.out.off fun q hq => hd2 q (.inl hq), hd2.off fun q hq => HF5.out q (.inl hq)⟩ hr (by show a2 ≤ _; have := HAC.out; omega) (by omega) (by rw [Pp.t1_used, Pp.made_len]; show 1024 ≤ 16384; decide) (by rw [hn5]; exact Pp.t1_get _ _) (Pp.t1_file _ _))
 have hbt : (none7.setIfInBounds 1 (.int .i64 2)).setIfInBounds 4 (.int .u64 1) = rtC ⟨0, 2, 0, 0, 1, 0, 0⟩ := by kernel_rfl
 have h5 : ¬ none7.size < 5 := by decide
 have HCO : Hid (Pp.cost s5 (Pp.t1 Pp.made a2) ≤ 600) := by unfold Hid Pp.cost; rw [ht5]; have := HAC.out; show max a2 0 ≤ 600; omega
 have HWE : Hid (Pp.Well (Pp.t1 Pp.made a2) s5.name 0 Pp.made) := ⟨rfl, rfl, by rw [hn5]; exact Pp.t1_get _ _, Pp.t1_file _ _, by rw [Pp.t1_used, Pp.made_len]; show 1024 ≤ 16384; decide, by rw [show (Pp.t1 Pp.made a2).seen = [(⟨#[105]⟩, 0)] from rfl]; simp⟩
 obtain ⟨RC, hRC⟩ : ∃ D, rtC ⟨0, 2, 0, 0, 1, 0, 0⟩ = D := ⟨_, rfl⟩
 rw [hRC] at hbt HCM
 clear ht5 hs5 hg5 hg6 hP5 hN5 hT5 hcv2 HA4 hd2 hd5 hr hRC
 go_wp2_with fail
 refine HCM.out.mono ?_
 rintro e w6 ⟨x6, s6, F6, t6, f6, d6, rfl, hcom, hD6, hM6, hpp, hT6⟩
 have hcg := hcom.goes (free := 15360) HG5.out HWE.out (by rw [Pp.t1_used, Pp.made_len]; rfl)
 obtain ⟨hP6, hN6, hap6⟩ := hpp hcg.2.2.1.dead
 obtain ⟨hx6, hg6, hw6, hn6, -, -, hco⟩ := hcg
 have htn6 : s6.turns ≤ 1099511627776 := by have h1 := HCO.out; have h2 : s6.turns ≤ Pp.cost s6 t6 := Nat.le_max_right _ _; omega
 rw [Pa.two_com] at hx6
 subst hx6
 have hw6' : Sf.get t6 s6.name = (0, 0) := by rw [hn6]; exact hw6.get
 have HRD := Lib.hid (ppread_any 3 0 hP6 hD6 (by unfold I64; decide) hw6.dead hw6' hw6.file htn6)
 have hrd : Pp.readE s6 F6 3 = (9, [98], 0) := (Pp.find_bare hg6 3).trans Pa.two_read
 rw [hrd] at HRD
 have HSQ : Hid (s6.root.seq = 2) := by unfold Hid; rw [hg6.root]; exact Pa.two_seq
 have HW6 : Hid (Below w.heap.size w w6) := HW5.out.trans (hT6.below HW5.out.size (fun q hq => by
  have h1 := HW2.out.size
  rcases hq with hq | hq
  ·have := HF5.out q (.inl hq); omega
  ·exact HF2.out q (.inl hq)))
 have HF6 : Hid (f6.From w.heap.size) := hN6.from_ (HF5.out.mono HW2.out.size) HW5.out.size
 clear hco htn6 hcom hD6 hM6 hpp hT6 hP6 hN6 hap6 hg6 hw6 hn6 hw6' hrd HCM hbt h5
 go_wp2_with fail
 refine HRD.out.mono ?_
 rintro e w7 ⟨A7, c7, rfl, o7, f7, hP7, hN7, hT7, -⟩
 have HO7 := Lib.hid o7
 have HP7 := Lib.hid hP7
 have HW7 : Hid (Below w.heap.size w w7) := HW6.out.trans (hT7.below HW6.out.size (fun q hq => HF6.out q (.inl hq)))
 have hcv3 : (convert 40 40 (.slice (some ⟨w7.heap.size, 0, none⟩) 1 1)).run Tryz.prog (w7.alloc (.cells #[.int .u8 98] 5)) = .ok (.slice (some ⟨w7.heap.size, 0, none⟩) 1 1) (w7.alloc (oneB 98)) := conv_one w7 98
 have HB7 : Hid (Below w7.heap.size w7 (w7.alloc (oneB 98))) := (Below.refl _ _).alloc (Nat.le_refl _) _
 have HSM := Lib.hid (same_bv _ _ _ _ _ _ (w7.alloc (oneB 98)) (HO7.out.below_ HB7.out (Nat.le_refl _)).form_.bv_ (Bv.oneB_ w7 98 (by decide)))
 rw [decide_eq_true rfl] at HSM
 clear o7 hP7 hN7 hT7 HRD
 go_wp2_with fail
 refine HSM.out.mono ?_
 rintro e w8 ⟨rfl, b8⟩
 have hb8 : Below w7.heap.size w7 w8 := HB7.out.trans (b8.mono HB7.out.size)
 have HRO := Lib.hid (pproot_any (ppager_turned HP7.out (Turned.of_below hb8) ((ppager_lt HP7.out).off fun _ h => h)))
 have HW8 : Hid (Below w.heap.size w w8) := HW7.out.trans (hb8.mono HW7.out.size)
 clear b8 hb8 HSM hcv3
 go_wp2_with fail
 refine HRO.out.mono ?_
 rintro e w9 ⟨rfl, b9⟩
 have HW9 : Hid (Below w.heap.size w w9) := HW8.out.trans (b9.mono HW8.out.size)
 have hsq := HSQ.out
 obtain ⟨r6, hr6⟩ : ∃ r, s6.root = r := ⟨_, rfl⟩
 rw [hr6] at hsq ⊢
 obtain ⟨q0, q1, q2, q3, q4, q5, q6⟩ := r6
 simp only at hsq
 subst hsq
 clear b9 HRO
 unfold rtC
 have hfd := root_seq (.int .u64 2) (.int .i64 q1) (.int .i64 q2) (.int .u64 (q3 : Nat)) (.int .u64 (q4 : Nat)) (.int .i64 q5) (.int .i64 q6) w9
 go_wp2
 go_ret
 exact ⟨rfl, HW9.out⟩
end Go.Proofs.YtiafeniflkikeaaGreat
