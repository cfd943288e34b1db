/- Parts of the proof. -/
import Derived.Test.YtiafeniflkikeaaGreatPk45
import Derived.Test.YtiafeniflkikeaaGreatPk44
import Derived.Test.YtiafeniflkikeaaGreatPk42
import Derived.Test.YtiafeniflkikeaaGreatPk14
import Derived.Test.YtiafeniflkikeaaGreatPk09
import Derived.Lib.SlBytesConst
import Derived.Test.YtiafeniflkikeaaGreatPk43
import Derived.Test.YtiafeniflkikeaaGreatPk15
import Derived.Test.YtiafeniflkikeaaGreatPk12
namespace Go.Proofs.YtiafeniflkikeaaGreat
open Go.RowKit
set_option linter.unusedVariables false
def Pp.t1 (F : List Nat) (a : Nat) : Sf.St := { (Sf.new 16384) with files := [⟨F, []⟩], seen := Sf.with_ [] ⟨#[105]⟩ 0, row := [] ++ [Sf.with_ [] ⟨#[105]⟩ 0], acts := a }
theorem Pp.t1_get (F : List Nat) (a : Nat) : Sf.get (Pp.t1 F a) ⟨#[105]⟩ = (0, 0) := by
 unfold Sf.get Pp.t1
 rw [if_neg (by intro h; cases h)]
 have : Sf.find (Sf.with_ [] ⟨#[105]⟩ 0) ⟨#[105]⟩ = some 0 := by decide +kernel
 show (match Sf.find (Sf.with_ [] ⟨#[105]⟩ 0) ⟨#[105]⟩ with | none => (0, 7) | some n => (n, 0)) = (0, 0)
 rw [this]
theorem Pp.t1_file (F : List Nat) (a : Nat) : Sf.now (Sf.fileAt (Pp.t1 F a) 0) = F := rfl
theorem Pp.t1_used (F : List Nat) (a : Nat) : Sf.used (Pp.t1 F a) = F.length := by
 have e : Sf.with_ [] (⟨#[105]⟩ : ByteArray) 0 = [(⟨#[105]⟩, 0)] := rfl
 unfold Sf.used
 rw [if_neg (by intro h; cases h)]
 show Sf.lens (Pp.t1 F a) (Sf.with_ [] ⟨#[105]⟩ 0) = _
 rw [e]
 simp [Sf.lens, Sf.len, Pp.t1_file]
def Pa.two : Pa.M := ⟨Pa.new.root, [⟨2, 2, 9, [97]⟩, ⟨3, 2, 9, [98]⟩], 1024⟩
theorem Pa.two_is : (Pa.add (Pa.add Pa.new 9 [97]).1 9 [98]).1 = Pa.two := by kernel_rfl
theorem Pa.two_com : (Pa.commit Pa.two ⟨0, 2, 0, 0, 1, 0, 0⟩ 15360).2 = 0 := by decide +kernel
theorem Pa.two_read : Pa.read (Pa.commit Pa.two ⟨0, 2, 0, 0, 1, 0, 0⟩ 15360).1.l 3 = (9, [98], 0) := by decide +kernel
theorem Pa.two_seq : (Pa.commit Pa.two ⟨0, 2, 0, 0, 1, 0, 0⟩ 15360).1.root.seq = 2 := by decide +kernel
def oneB (x : Nat) : Obj := .cells #[.int .u8 (x : Nat)] 5 (1, 2)
theorem Bv.oneB_ (w : World) (x : Nat) (hx : x < 256) : Bv (w.alloc (oneB x)) (w.heap.size + 1) (.slice (some ⟨w.heap.size, 0, none⟩) 1 1) [x] := by
 refine ⟨some ⟨w.heap.size, 0, none⟩, 1, rfl, by simp, by simp [maxLen], by simp, by simpa using hx, fun _ => ⟨w.heap.size, 0, rfl, by omega, fun j c hj => ?_⟩⟩
 unfold oneB
 rw [Nat.zero_add, World.cell?_alloc_mark]
 have hl : j < 1 := (List.getElem?_eq_some_iff.1 hj).1
 match j, hl with
 | 0, _ => simp at hj; subst hj; rfl
theorem conv_one (w : World) (x : Nat) : (convert 40 40 (.slice (some ⟨w.heap.size, 0, none⟩) 1 1)).run Tryz.prog (w.alloc (.cells #[.int .u8 (x : Nat)] 5)) = .ok (.slice (some ⟨w.heap.size, 0, none⟩) 1 1) (w.alloc (oneB x)) :=
 Lib.run_convert_bytes_const w 40 5 #[.int .u8 (x : Nat)] 1 1 Tryz.underlying40 Tryz.underlying5
theorem root_seq (u a b c d e f : Value) (w : World) : (Instr.field 34 (.agg #[u, a, b, c, d, e, f]) 0).run Tryz.prog w = .ok u w := by
 simp [Instr.field, go_sem, part, run_underlying Tryz.underlying34, asAgg]
set_option maxHeartbeats 2000000 in
set_option maxRecDepth 100000 in
theorem plives_any (w : World) : Calls Tryz.prog 8 #[] w (IsBool true w) := by
 have hz7 := (zero_of_info (n := 7) rt_zero).1
 have HN := Lib.hid (pnew_any 16384 (by unfold I64; omega) w)
 simp only [show ¬ ((16384 : Int) < 0 ∨ (1048576 : Int) < 16384) by omega, if_false] at HN
 go_enter Tryz.func8, Tryz.ntmps8
 go_wp2_with fail
 refine HN.out.mono ?_
 rintro e w1 ⟨b0, f0, rfl, hD1, hF1, hB1⟩
 have HB1 := Lib.hid hB1
 have HF1 := Lib.hid hF1
 have HMK := Lib.hid (ppmake_any ⟨#[105]⟩ hD1 (by decide +kernel) rfl rfl rfl (by decide +kernel) (by decide) (by show 0 ≤ _; omega))
 clear hD1 hB1 hF1 HN
 go_wp2_with fail
 refine HMK.out.mono ?_
 rintro e w2 ⟨x2, t2, f2, rfl, hD2, hN2, hT2, hac, hcase⟩
 have hu : Sf.used (Sf.new (16384 : Int).toNat) = 0 := rfl
 rcases hcase with ⟨hc, _⟩ | ⟨_, rfl, ht2⟩
 ·exfalso; rw [hu] at hc; exact absurd hc (by decide)
 have e2 : t2 = Pp.t1 Pp.made t2.acts := ht2
 obtain ⟨a2, ha2⟩ : ∃ a, t2.acts = a := ⟨_, rfl⟩
 rw [ha2] at e2 hac
 subst e2
 clear ht2 hu HMK
 have hop := Pp.open_made (Pp.t1_get Pp.made a2) (Pp.t1_file Pp.made a2) 4 (by omega) (by omega)
 have HOP := Lib.hid (ppopen_some ⟨#[105]⟩ 4 hD2 (by decide +kernel) (by unfold I64; omega) _ hop)
 rw [Pp.t1_get, Pp.t1_file] at HOP
 have HD2 := Lib.hid hD2
 have HW2 : Hid (Below w.heap.size w w2) := HB1.out.trans (hT2.below HB1.out.size (fun q hq => HF1.out q (.inl hq)))
 have HF2 : Hid (f2.From w.heap.size) := hN2.from_ HF1.out HB1.out.size
 have HAC : Hid (a2 ≤ 600) := hac
 clear hD2 hN2 hT2 hac hop
 go_wp2_with fail
 refine HOP.out.mono ?_
 rintro e w3 ⟨b3, b, f3, rfl, hP3, hfr3⟩
 have HW3 : Hid (Below w.heap.size w w3) := HW2.out.trans (b3.mono HW2.out.size)
 have HG3 := Lib.hid (Pp.goes_new ⟨#[105]⟩ (4 : Int).toNat)
 have HP3 := Lib.hid hP3
 have HD3 := Lib.hid (pdisk_law.below HD2.out b3)
 have HF3 : Hid (f3.From w2.heap.size) := hfr3
 have HS3 := Lib.hid b3.size
 have HO3 := Lib.hid (Bv.oneB_ w3 97 (by decide))
 have HA3 := Lib.hid (ppadd_any 9 _ [97] _ (ppager_turned HP3.out (alloc_turned w3 (oneB 97)) (fun _ h => h.elim)) (by decide) HO3.out.lv_ (by simp) (fun _ q hq hm => by have e : w3.heap.size = q := Option.some.inj hq; have := ppager_lt HP3.out q (.inl hm); omega))
 have hg3 := HG3.out.add (kd := 9) (b := [97]) (by decide) (by decide)
 have x3 : (Pa.add Pa.new 9 [97]).2 = (2, 0) := by kernel_rfl
 rw [hg3.1, x3] at HA3
 have hcv : (convert 40 40 (.slice (some ⟨w3.heap.size, 0, none⟩) 1 1)).run Tryz.prog (w3.alloc (.cells #[.int .u8 97] 5)) = .ok (.slice (some ⟨w3.heap.size, 0, none⟩) 1 1) (w3.alloc (oneB 97)) := conv_one w3 97
 clear hP3 hfr3 b3 HOP
 go_wp2_with fail
 refine HA3.out.mono ?_
 rintro e w4 ⟨rfl, f4, hP4, hN4, hT4⟩
 obtain ⟨s4, hs4⟩ : ∃ s : Pp.S, ({ (⟨⟨#[105]⟩, Pa.new.root, (4 : Int).toNat, [], 0⟩ : Pp.S) with l := (Pa.add (Pp.asM ⟨⟨#[105]⟩, Pa.new.root, (4 : Int).toNat, [], 0⟩ Pp.made) 9 [97]).1.l } : Pp.S) = s := ⟨_, rfl⟩
 have hn4 : s4.name = ⟨#[105]⟩ ∧ s4.turns = 0 := by rw [← hs4]; exact ⟨rfl, rfl⟩
 have hg4 := hg3.2
 rw [hs4] at hg4 hP4
 have HG4 := Lib.hid hg4
 have HP4 := Lib.hid hP4
 have HF4 : Hid (f4.From w2.heap.size) := hN4.from_ HF3.out (by have := HS3.out; simp; omega)
 have hd2 : f2.Lt w2.heap.size := pdisk_law.lt HD2.out
 have HD4 : Hid (PDisk w4 f2 (Pp.t1 Pp.made a2) b0) := pdisk_law.turned (pdisk_law.alloc HD3.out (oneB 97)) hT4 (hd2.off fun q hq => HF3.out q (.inl hq))
 have HT4 : Hid (Below w2.heap.size w3 w4) := ((Below.refl w2.heap.size w3).alloc HS3.out (oneB 97)).trans (hT4.below (by have := HS3.out; simp; omega) (fun q hq => HF3.out q (.inl hq)))
 have HO4 := Lib.hid (Bv.oneB_ w4 98 (by decide))
 have HA4 := Lib.hid (ppadd_any 9 _ [98] _ (ppager_turned HP4.out (alloc_turned w4 (oneB 98)) (fun _ h => h.elim)) (by decide) HO4.out.lv_ (by simp) (fun _ q hq hm => by have e : w4.heap.size = q := Option.some.inj hq; have := ppager_lt HP4.out q (.inl hm); omega))
 have hg5 := hg4.add (kd := 9) (b := [98]) (by decide) (by decide)
 have x4 : (Pa.add (Pa.add Pa.new 9 [97]).1 9 [98]).2 = (3, 0) := by kernel_rfl
 rw [hg5.1, x4] at HA4
 rw [Pa.two_is] at hg5
 have hcv2 : (convert 40 40 (.slice (some ⟨w4.heap.size, 0, none⟩) 1 1)).run Tryz.prog (w4.alloc (.cells #[.int .u8 98] 5)) = .ok (.slice (some ⟨w4.heap.size, 0, none⟩) 1 1) (w4.alloc (oneB 98)) := conv_one w4 98
 have HS4 : Hid (w3.heap.size ≤ w4.heap.size) := HT4.out.size
 clear hs4 hg3 hg4 hP4 hN4 hT4 hcv HA3 x3 x4 hd2
 go_wp2_with fail
 refine HA4.out.mono ?_
 rintro e w5 ⟨rfl, f5, hP5, hN5, hT5⟩
 obtain ⟨s5, hs5⟩ : ∃ s : Pp.S, ({ s4 with l := (Pa.add (Pp.asM s4 Pp.made) 9 [98]).1.l } : Pp.S) = s := ⟨_, rfl⟩
 have hn5 : s5.name = ⟨#[105]⟩ := by rw [← hs5]; exact hn4.1
 have ht5 : s5.turns = 0 := by rw [← hs5]; exact hn4.2
 have hg6 := hg5.2
 rw [hs5] at hg6 hP5
 have HG5 := Lib.hid hg6
 have HF5 : Hid (f5.From w2.heap.size) := hN5.from_ HF4.out (by have := HS3.out; have := HS4.out; simp; omega)
 have hd2 : f2.Lt w2.heap.size := pdisk_law.lt HD2.out
 have hd5 : PDisk w5 f2 (Pp.t1 Pp.made a2) b0 := pdisk_law.turned (pdisk_law.alloc HD4.out (oneB 98)) hT5 (hd2.off fun q hq => HF4.out q (.inl hq))
 have HT5 : Hid (Below w2.heap.size w4 w5) := ((Below.refl w2.heap.size w4).alloc (by have := HS3.out; have := HS4.out; omega) (oneB 98)).trans (hT5.below (by have := HS3.out; have := HS4.out; simp; omega) (fun q hq => HF4.out q (.inl hq)))
 have HW5 : Hid (Below w.heap.size w w5) := HW3.out.trans ((HT4.out.trans HT5.out).mono HW2.out.size)
 have hr : Rt.Fit ⟨0, 2, 0, 0, 1, 0, 0⟩ := ⟨by decide, by unfold I64; decide, by unfold I64; decide, by decide, by decide, by unfold I64; decide, by unfold I64; decide⟩
 have HCM := Lib.hid (ppcommit_any ⟨0, 2, 0, 0, 1, 0, 0⟩ 0 hP5 hd5 ⟨HF5.out.off fun q hq => hd2 q (.inl hq), hd2.off fun q hq => HF5.out q (.inl hq)⟩ hr (by show a2 ≤ _; have := HAC.out; omega) (by omega) (by rw [Pp.t1_used, Pp.made_len]; show 1024 ≤ 16384; decide) (by rw [hn5]; exact Pp.t1_get _ _) (Pp.t1_file _ _))
 have hbt : (none7.setIfInBounds 1 (.int .i64 2)).setIfInBounds 4 (.int .u64 1) = rtC ⟨0, 2, 0, 0, 1, 0, 0⟩ := by kernel_rfl
 have h5 : ¬ none7.size < 5 := by decide
 have HCO : Hid (Pp.cost s5 (Pp.t1 Pp.made a2) ≤ 600) := by unfold Hid Pp.cost; rw [ht5]; have := HAC.out; show max a2 0 ≤ 600; omega
 have HWE : Hid (Pp.Well (Pp.t1 Pp.made a2) s5.name 0 Pp.made) := ⟨rfl, rfl, by rw [hn5]; exact Pp.t1_get _ _, Pp.t1_file _ _, by rw [Pp.t1_used, Pp.made_len]; show 1024 ≤ 16384; decide, by rw [show (Pp.t1 Pp.made a2).seen = [(⟨#[105]⟩, 0)] from rfl]; simp⟩
 obtain ⟨RC, hRC⟩ : ∃ D, rtC ⟨0, 2, 0, 0, 1, 0, 0⟩ = D := ⟨_, rfl⟩
 rw [hRC] at hbt HCM
 clear ht5 hs5 hg5 hg6 hP5 hN5 hT5 hcv2 HA4 hd2 hd5 hr hRC
 go_wp2_with fail
 refine HCM.out.mono ?_
 rintro e w6 ⟨x6, s6, F6, t6, f6, d6, rfl, hcom, hD6, hM6, hpp, hT6⟩
 have hcg := hcom.goes (free := 15360) HG5.out HWE.out (by rw [Pp.t1_used, Pp.made_len]; rfl)
 obtain ⟨hP6, hN6, hap6⟩ := hpp hcg.2.2.1.dead
 obtain ⟨hx6, hg6, hw6, hn6, -, -, hco⟩ := hcg
 have htn6 : s6.turns ≤ 1099511627776 := by have h1 := HCO.out; have h2 : s6.turns ≤ Pp.cost s6 t6 := Nat.le_max_right _ _; omega
 rw [Pa.two_com] at hx6
 subst hx6
 have hw6' : Sf.get t6 s6.name = (0, 0) := by rw [hn6]; exact hw6.get
 have HRD := Lib.hid (ppread_any 3 0 hP6 hD6 (by unfold I64; decide) hw6.dead hw6' hw6.file htn6)
 have hrd : Pp.readE s6 F6 3 = (9, [98], 0) := (Pp.find_bare hg6 3).trans Pa.two_read
 rw [hrd] at HRD
 have HSQ : Hid (s6.root.seq = 2) := by unfold Hid; rw [hg6.root]; exact Pa.two_seq
 have HW6 : Hid (Below w.heap.size w w6) := HW5.out.trans (hT6.below HW5.out.size (fun q hq => by
  have h1 := HW2.out.size
  rcases hq with hq | hq
  ·have := HF5.out q (.inl hq); omega
  ·exact HF2.out q (.inl hq)))
 have HF6 : Hid (f6.From w.heap.size) := hN6.from_ (HF5.out.mono HW2.out.size) HW5.out.size
 clear hco htn6 hcom hD6 hM6 hpp hT6 hP6 hN6 hap6 hg6 hw6 hn6 hw6' hrd HCM hbt h5
 go_wp2_with fail
 refine HRD.out.mono ?_
 rintro e w7 ⟨A7, c7, rfl, o7, f7, hP7, hN7, hT7, -⟩
 have HO7 := Lib.hid o7
 have HP7 := Lib.hid hP7
 have HW7 : Hid (Below w.heap.size w w7) := HW6.out.trans (hT7.below HW6.out.size (fun q hq => HF6.out q (.inl hq)))
 have hcv3 : (convert 40 40 (.slice (some ⟨w7.heap.size, 0, none⟩) 1 1)).run Tryz.prog (w7.alloc (.cells #[.int .u8 98] 5)) = .ok (.slice (some ⟨w7.heap.size, 0, none⟩) 1 1) (w7.alloc (oneB 98)) := conv_one w7 98
 have HB7 : Hid (Below w7.heap.size w7 (w7.alloc (oneB 98))) := (Below.refl _ _).alloc (Nat.le_refl _) _
 have HSM := Lib.hid (same_bv _ _ _ _ _ _ (w7.alloc (oneB 98)) (HO7.out.below_ HB7.out (Nat.le_refl _)).form_.bv_ (Bv.oneB_ w7 98 (by decide)))
 rw [decide_eq_true rfl] at HSM
 clear o7 hP7 hN7 hT7 HRD
 go_wp2_with fail
 refine HSM.out.mono ?_
 rintro e w8 ⟨rfl, b8⟩
 have hb8 : Below w7.heap.size w7 w8 := HB7.out.trans (b8.mono HB7.out.size)
 have HRO := Lib.hid (pproot_any (ppager_turned HP7.out (Turned.of_below hb8) ((ppager_lt HP7.out).off fun _ h => h)))
 have HW8 : Hid (Below w.heap.size w w8) := HW7.out.trans (hb8.mono HW7.out.size)
 clear b8 hb8 HSM hcv3
 go_wp2_with fail
 refine HRO.out.mono ?_
 rintro e w9 ⟨rfl, b9⟩
 have HW9 : Hid (Below w.heap.size w w9) := HW8.out.trans (b9.mono HW8.out.size)
 have hsq := HSQ.out
 obtain ⟨r6, hr6⟩ : ∃ r, s6.root = r := ⟨_, rfl⟩
 rw [hr6] at hsq ⊢
 obtain ⟨q0, q1, q2, q3, q4, q5, q6⟩ := r6
 simp only at hsq
 subst hsq
 clear b9 HRO
 unfold rtC
 have hfd := root_seq (.int .u64 2) (.int .i64 q1) (.int .i64 q2) (.int .u64 (q3 : Nat)) (.int .u64 (q4 : Nat)) (.int .i64 q5) (.int .i64 q6) w9
 go_wp2
 go_ret
 exact ⟨rfl, HW9.out⟩
end Go.Proofs.YtiafeniflkikeaaGreat
namespace Go.Proofs.YtiafeniflkikeaaGreat
open Go.RowKit
set_option linter.unusedVariables false
structure Pp.All (w : World) (fp fd : Fp) (s : Pp.S) (F : List Nat) (t : Sf.St) (k b bf : Nat) (R : Nat → Prop) (v : Value) (m : Pa.M) : Prop where
 pager : PPager w fp s F b bf
 disk : PDisk w fd t bf
 apart : fp.Apart fd
 ref : PaIs w R v m
 old : ∀ q, R q → q < w.heap.size
 offp : ∀ q, R q → ¬ fp.M q
 offd : ∀ q, R q → ¬ fd.M q
 goes : Pp.Goes s F m
 well : Pp.Well t s.name k F
 few : m.l.length ≤ 1000000
theorem Pp.All.below {w w' : World} {fp fd : Fp} {s : Pp.S} {F : List Nat} {t : Sf.St} {k b bf : Nat} {R : Nat → Prop} {v : Value} {m : Pa.M} (h : Pp.All w fp fd s F t k b bf R v m) (hb : Below w.heap.size w w') : Pp.All w' fp fd s F t k b bf R v m :=
 ⟨ppager_turned h.pager (Turned.of_below hb) ((ppager_lt h.pager).off fun _ h => h), pdisk_law.below h.disk hb, h.apart, h.ref.below_ hb, fun q hq => Nat.lt_of_lt_of_le (h.old q hq) hb.size, h.offp, h.offd, h.goes, h.well, h.few⟩
def Pa.stepM (m : Pa.M) (a : Pa.Act) (free : Int) : Pa.M :=
 if a.do_ = 0 then (Pa.add m a.kind a.body).1 else if a.do_ = 1 then (Pa.drop m (Pa.number m.l a)).1 else if a.do_ = 2 then (Pa.commit m { a.root with page := Pa.number m.l a } free).1
 else if a.do_ = 3 then Pa.back m else m
def IsStep (R : Nat → Prop) (fp fd : Fp) (s : Pp.S) (t : Sf.St) (k b bf : Nat) (m' : Pa.M) (w : World) (e : Ending) (w' : World) : Prop :=
 ∃ (v' : Value) (R' : Nat → Prop) (s' : Pp.S) (F' : List Nat) (t' : Sf.St) (fp' fd' : Fp), e = .returned (.tuple #[v', .bool true]) ∧ Pp.All w' fp' fd' s' F' t' k b bf R' v' m' ∧ s'.name = s.name ∧ s'.cache = s.cache ∧
  fp.Next fp' w.heap.size ∧ fd.Next fd' w.heap.size ∧ Turned (fun q => fp.M q ∨ fd.M q) w w' ∧ t'.room = t.room ∧ Pp.cost s' t' ≤ Pp.cost s t + 200000 ∧ ∀ q, R' q → R q ∨ w.heap.size ≤ q
set_option maxHeartbeats 2000000 in
set_option maxRecDepth 100000 in
theorem pstep_back {w : World} {fp fd : Fp} {s : Pp.S} {F : List Nat} {t : Sf.St} {k b bf : Nat} {R : Nat → Prop} {v : Value} {m : Pa.M} (h : Pp.All w fp fd s F t k b bf R v m) (x : RawT) (a : Pa.Act) (free : Int) (hx : RawTOk x) (ha : a.n = x.n ∧ a.any = x.any) (hd : x.do_ = 3) :
  Calls Tryz.prog 13 #[.pointer (some ⟨b, 0, none⟩), v, .agg (actC x), .int .i64 free] w (IsStep R fp fd s t k b bf (Pa.back m) w) := by
 have hz := (zero_of_info pa_zero).1
 obtain ⟨Z, hZ⟩ : ∃ Z, none9 = Z := ⟨_, rfl⟩
 have hzs : Z.size = 9 := by rw [← hZ]; rfl
 rw [hZ] at hz
 have hv9 : ∃ D : Array Value, v = .agg D ∧ D.size = 9 := by obtain ⟨A, c, e, _⟩ := h.ref; exact ⟨_, e, rfl⟩
 obtain ⟨D, rfl, hDs⟩ := hv9
 obtain ⟨E, hE⟩ : ∃ D, actC x = D := ⟨_, rfl⟩
 have hEs : E.size = 12 := by rw [← hE]; rfl
 obtain ⟨W, hW⟩ : ∃ W, ((w.alloc (.cells D 37)).alloc (.cells E 42)).alloc (.cells Z 37) = W := ⟨_, rfl⟩
 have hDT : Rw W w.heap.size 37 D := by rw [← hW]; exact ((Rw.new w _ _).old _).old _
 have hET : Rw W (w.heap.size + 1) 42 E := by rw [← hW]; exact (Rw.at_ (by simp) _ _).old _
 have hZT : Rw W (w.heap.size + 2) 37 Z := by rw [← hW]; exact Rw.at_ (by simp) _ _
 have hb : Below w.heap.size w W := by rw [← hW]; exact (((Below.refl _ _).alloc (Nat.le_refl _) _).alloc (by simp) _).alloc (by simp; omega) _
 have hWs : W.heap.size = w.heap.size + 3 := by rw [← hW]; simp
 have HAW := Lib.hid (h.below hb)
 have HA := Lib.hid h
 have hpa := pa_size
 have HSD : Hid ((Tryz.prog.info? 37).map (·.size) = some D.size) := by unfold Hid; rw [hDs]; exact hpa
 have HSE : Hid ((Tryz.prog.info? 42).map (·.size) = some E.size) := by unfold Hid; rw [hEs]; kernel_rfl
 have HNU := Lib.hid (pnumber_any R (.agg D) m x a W HAW.out.ref h.few ha hx.2.1)
 rw [hE] at HNU
 obtain ⟨n, hn⟩ : ∃ n, Pa.number m.l a = n := ⟨_, rfl⟩
 rw [hn] at HNU
 have HDT := Lib.hid hDT
 have HET := Lib.hid hET
 have HZT := Lib.hid hZT
 have HB := Lib.hid hb
 have HWS := Lib.hid hWs
 have HEC : Hid (E[0]? = some (.int .i64 3)) := by unfold Hid; rw [← hE, ← hd]; rfl
 have HZS := Lib.hid hzs
 rw [hE]
 clear hDT hET hZT hb hWs hE hEs hDs hZ hzs hn hpa h hd hx ha
 go_enter Tryz.func13, Tryz.ntmps13
 go_wp2_with (first
  | ((with_reducible refine gate_load 37 ?_); refine wpList_load_row rfl 37 _ rfl w.heap.size rfl 37 D (0, 0) _ HDT.out Tryz.underlying37 rfl HSD.out ?_)
  | ((with_reducible refine gate_load 42 ?_); refine wpList_load_row rfl 42 _ rfl (w.heap.size + 1) rfl 42 E (0, 0) _ HET.out Tryz.underlying42 rfl HSE.out ?_))
 refine HNU.out.mono ?_
 rintro e w1 ⟨rfl, b1⟩
 have c0 : w1.cell? ⟨w.heap.size + 1, 0, none⟩ = some (.int .i64 3) := ((HET.out.below b1 HET.out.lt).cell 0).trans HEC.out
 have HA1 := Lib.hid (HAW.out.below b1)
 have HD1 : Hid (Rw w1 w.heap.size 37 D) := HDT.out.below b1 HDT.out.lt
 have HZ1 : Hid (Rw w1 (w.heap.size + 2) 37 Z) := HZT.out.below b1 HZT.out.lt
 have HB1 : Hid (Below w.heap.size w w1) := HB.out.trans (b1.mono HB.out.size)
 have HS1 : Hid (W.heap.size ≤ w1.heap.size) := b1.size
 clear b1 HNU
 go_wp2_with fail
 refine (ppback_any HA1.out.pager).mono ?_
 rintro e w2 ⟨⟨x2, rfl⟩, f2, hP2, hN2, hT2⟩
 have hlp : fp.Lt w.heap.size := ppager_lt HA.out.pager
 have hld : fd.Lt w.heap.size := pdisk_law.lt HA.out.disk
 have hs1 : w.heap.size + 3 ≤ w1.heap.size := by have := HS1.out; have := HWS.out; omega
 have hno : ∀ q, w.heap.size ≤ q → ¬ fp.M q := fun q hq hm => by have := hlp q (.inl hm); omega
 have HD2 : Hid (Rw w2 w.heap.size 37 D) := (hT2.block _ HD1.out.lt (hno _ (Nat.le_refl _))).trans HD1.out
 have HZ2 : Hid (Rw w2 (w.heap.size + 2) 37 Z) := (hT2.block _ HZ1.out.lt (hno _ (by omega))).trans HZ1.out
 have HCB := Lib.hid (rpaback_any R (.agg D) m w2 (HA1.out.ref.turned_ hT2 HA.out.offp) (fun q hq => Nat.lt_of_lt_of_le (HA1.out.old q hq) hT2.size) HA.out.few)
 have HP2 := Lib.hid hP2
 have HN2 := Lib.hid hN2
 have HT2 := Lib.hid hT2
 have HLP := Lib.hid hlp
 have HLD := Lib.hid hld
 have HS3 := Lib.hid hs1
 clear hP2 hN2 hT2 hlp hld hs1 hno
 go_wp2_with ((with_reducible refine gate_load 37 ?_); refine wpList_load_row rfl 37 _ rfl w.heap.size rfl 37 D (0, 0) _ HD2.out Tryz.underlying37 rfl HSD.out ?_)
 refine HCB.out.mono ?_
 rintro e w3 ⟨v3, rfl, hv3, b3⟩
 obtain ⟨A, c, rfl, hf, hs, hp⟩ := hv3
 have hsz := pa_size
 rw [← paC_size (Pa.back m).root A (Pa.back m).l.length c (Pa.back m).size] at hsz
 have hco := paC_one (Pa.back m).root A (Pa.back m).l.length c (Pa.back m).size
 have hzc : Z.size = (paC (Pa.back m).root A (Pa.back m).l.length c (Pa.back m).size).size := by rw [HZS.out, paC_size]
 obtain ⟨C, hC⟩ : ∃ C, paC (Pa.back m).root A (Pa.back m).l.length c (Pa.back m).size = C := ⟨_, rfl⟩
 rw [hC] at hsz hco hzc ⊢
 have HZ3 : Hid (Rw w3 (w.heap.size + 2) 37 Z) := HZ2.out.below b3 HZ2.out.lt
 have HSZ := Lib.hid hsz
 have HCC := Lib.hid hC
 have HF := Lib.hid (And.intro hf hs)
 have HP := Lib.hid hp
 have HB3 := Lib.hid b3
 clear hp hf hs hC b3 HCB
 go_wp2_with ((with_reducible refine gate_store 37 ?_); refine wpList_store_row rfl 37 _ _ rfl (w.heap.size + 2) C rfl rfl 37 Z HZ3.out hsz hzc hco ?_)
 have HTX : Hid (Turned (fun q => q = w.heap.size + 2) w3 (w3.setRow (w.heap.size + 2) C)) := (Turned.refl (fun q => q = w.heap.size + 2) w3).setRow (fun _ => rfl) _
 have HRX : Hid (Rw (w3.setRow (w.heap.size + 2) C) (w.heap.size + 2) 37 C) := Rw.row HZ3.out C
 generalize w3.setRow (w.heap.size + 2) C = X at *
 clear hsz hco hzc
 try go_wp2
 refine bodyPost_ret (v := .tuple #[.agg C, .bool true]) (results_pa rfl _ _ (w.heap.size + 2) C _ _ rfl rfl HSZ.out HRX.out) rfl ⟨_, RX R w2 w3, { s with l := Pa.backL s.l }, F, t, f2, fd, rfl, ⟨?_, ?_, ?_, ?_, ?_, ?_, ?_, HA.out.goes.back, HA.out.well, Nat.le_trans (Pa.backL_le _) HA.out.few⟩, rfl, rfl, (Fp.Next.refl fp w.heap.size).trans HN2.out (by have := HS3.out; omega), Fp.Next.refl _ _, ?_, rfl, Nat.le_add_right (Pp.cost s t) _, fun q hq => hq.imp_right (fun h => by have := HS3.out; have := HT2.out.size; omega)⟩
 ·refine ppager_turned (ppager_turned HP2.out (Turned.of_below HB3.out) ((ppager_lt HP2.out).off fun _ h => h)) HTX.out (fun q hq => ?_)
  have := HS3.out
  exact ⟨fun hm => (HN2.out.m q hm).elim (fun h => by have := HLP.out q (.inl h); omega) (fun h => by omega), fun hm => (HN2.out.r q hm).elim (fun h => by have := HLP.out q (.inr h); omega) (fun h => by omega)⟩
 ·have h2 := pdisk_law.turned HA1.out.disk HT2.out HA.out.apart.2
  exact pdisk_law.turned (pdisk_law.below h2 HB3.out) HTX.out (HLD.out.off fun q hq => by omega)
 ·exact HA.out.apart.next HN2.out (fun q hq => by have := HLD.out q hq; have := HS3.out; omega)
 ·refine ⟨A, c, by rw [← HCC.out], HF.out.1, HF.out.2, HP.out.turned_ HTX.out (fun q hq hf => ?_)⟩
  have h1 := HS3.out
  have h2 := HT2.out.size
  rcases hq with hq | hq
  ·have := HA.out.old q hq; omega
  ·omega
 ·intro q hq
  have h1 := HS3.out
  have h2 := HT2.out.size
  have h3 := HB3.out.size
  have h4 := HTX.out.size
  rcases hq with hq | hq
  ·have := HA.out.old q hq; omega
  ·omega
 ·intro q hq hm
  have h1 := HS3.out
  rcases hq with hq | hq
  ·rcases HN2.out.m q hm with h | h
   ·exact HA.out.offp q hq h
   ·have := HA.out.old q hq; omega
  ·have := ppager_lt HP2.out q (.inl hm); omega
 ·intro q hq hm
  have h1 := HS3.out
  have h2 := HT2.out.size
  rcases hq with hq | hq
  ·exact HA.out.offd q hq hm
  ·have := HLD.out q (.inl hm); omega
 ·have h0 : Turned (fun q => fp.M q ∨ fd.M q) w w1 := (Turned.of_below HB1.out).mono (fun q h1 h2 => by omega)
  have h1 := h0.trans HT2.out (fun q _ h => .inl h)
  have h2 := h1.trans (Turned.of_below HB3.out) (fun q hq h => by have := HS3.out; have := HT2.out.size; omega)
  exact h2.trans HTX.out (fun q hq h => by omega)
end Go.Proofs.YtiafeniflkikeaaGreat
namespace Go.Proofs.YtiafeniflkikeaaGreat
open Go.RowKit
set_option linter.unusedVariables false
theorem Pp.All.step {w w1 w2 w3 X : World} {fp fd : Fp} {s s1 : Pp.S} {F : List Nat} {t : Sf.St} {k b bf : Nat} {R G : Nat → Prop} {v v3 : Value} {m m' : Pa.M} (h : Pp.All w fp fd s F t k b bf R v m) (hb : Below w.heap.size w w1)
  (hp : TurnsP fp s1 F b bf w1 w2) (hn : s1.name = s.name) (hc : s1.cache = s.cache ∧ s1.turns ≤ s.turns + 1) (hg : Pp.Goes s1 F m') (hv : PaIs w3 (RX R w2 w3) v3 m') (b3 : Below w2.heap.size w2 w3) (hX : Turned G w3 X) (hG : ∀ q, G q → (w.heap.size ≤ q ∧ q < w1.heap.size) ∨ w3.heap.size ≤ q) :
  IsStep R fp fd s t k b bf m' w (.returned (.tuple #[v3, .bool true])) X := by
 obtain ⟨f2, hP2, hN2, hT2⟩ := hp
 have hlp : fp.Lt w.heap.size := ppager_lt h.pager
 have hld : fd.Lt w.heap.size := pdisk_law.lt h.disk
 have hl2 : f2.Lt w2.heap.size := ppager_lt hP2
 have s1' := hb.size
 have s2 := hT2.size
 have s3 := b3.size
 have s4 := hX.size
 refine ⟨_, RX R w2 w3, s1, F, t, f2, fd, rfl, ⟨?_, ?_, ?_, ?_, ?_, ?_, ?_, hg, ?_, ?_⟩, hn, hc.1, (Fp.Next.refl fp w.heap.size).trans hN2 s1', Fp.Next.refl _ _, ?_, rfl, by have := hc.2; unfold Pp.cost; omega, fun q hq => hq.imp_right (fun h => by omega)⟩
 ·refine ppager_turned (ppager_turned hP2 (Turned.of_below b3) (hl2.off fun _ h => h)) hX (fun q hq => ?_)
  rcases hG q hq with hq | hq
  ·exact ⟨fun hm => (hN2.m q hm).elim (fun h => by have := hlp q (.inl h); omega) (fun h => by omega), fun hm => (hN2.r q hm).elim (fun h => by have := hlp q (.inr h); omega) (fun h => by omega)⟩
  ·exact ⟨fun hm => by have := hl2 q (.inl hm); omega, fun hm => by have := hl2 q (.inr hm); omega⟩
 ·have h2 := pdisk_law.turned (pdisk_law.below h.disk hb) hT2 h.apart.2
  exact pdisk_law.turned (pdisk_law.below h2 b3) hX (hld.off fun q hq => by rcases hG q hq with hq | hq <;> omega)
 ·exact h.apart.next hN2 (fun q hq => by have := hld q hq; omega)
 ·refine hv.turned_ hX (fun q hq hf => ?_)
  have h1 := hG q hf
  rcases hq with hq | hq
  ·have := h.old q hq; omega
  ·omega
 ·intro q hq
  rcases hq with hq | hq
  ·have := h.old q hq; omega
  ·omega
 ·intro q hq hm
  rcases hq with hq | hq
  ·rcases hN2.m q hm with h5 | h5
   ·exact h.offp q hq h5
   ·have := h.old q hq; omega
  ·have := hl2 q (.inl hm); omega
 ·intro q hq hm
  rcases hq with hq | hq
  ·exact h.offd q hq hm
  ·have := hld q (.inl hm); omega
 ·have := h.well
  exact ⟨this.dead, this.fuse, by rw [hn]; exact this.get, this.file, this.room, this.nums⟩
 ·exact Nat.le_trans hg.ok.few (by omega)
 ·have h0 : Turned (fun q => fp.M q ∨ fd.M q) w w1 := (Turned.of_below hb).mono (fun q h1 h2 => by omega)
  have h1 := h0.trans hT2 (fun q _ h => .inl h)
  have h2 := h1.trans (Turned.of_below b3) (fun q hq h => by omega)
  exact h2.trans hX (fun q hq h => by have := hG q h; omega)
set_option maxHeartbeats 2000000 in
set_option maxRecDepth 100000 in
theorem pstep_drop {w : World} {fp fd : Fp} {s : Pp.S} {F : List Nat} {t : Sf.St} {k b bf : Nat} {R : Nat → Prop} {v : Value} {m : Pa.M} (h : Pp.All w fp fd s F t k b bf R v m) (x : RawT) (a : Pa.Act) (free : Int) (hx : RawTOk x) (ha : a.n = x.n ∧ a.any = x.any) (hd : x.do_ = 1) :
  Calls Tryz.prog 13 #[.pointer (some ⟨b, 0, none⟩), v, .agg (actC x), .int .i64 free] w (IsStep R fp fd s t k b bf (Pa.drop m (Pa.number m.l a)).1 w) := by
 have hz := (zero_of_info pa_zero).1
 obtain ⟨Z, hZ⟩ : ∃ Z, none9 = Z := ⟨_, rfl⟩
 have hzs : Z.size = 9 := by rw [← hZ]; rfl
 rw [hZ] at hz
 have hv9 : ∃ D : Array Value, v = .agg D ∧ D.size = 9 := by obtain ⟨A, c, e, _⟩ := h.ref; exact ⟨_, e, rfl⟩
 obtain ⟨D, rfl, hDs⟩ := hv9
 obtain ⟨E, hE⟩ : ∃ D, actC x = D := ⟨_, rfl⟩
 have hEs : E.size = 12 := by rw [← hE]; rfl
 obtain ⟨W, hW⟩ : ∃ W, ((w.alloc (.cells D 37)).alloc (.cells E 42)).alloc (.cells Z 37) = W := ⟨_, rfl⟩
 have hDT : Rw W w.heap.size 37 D := by rw [← hW]; exact ((Rw.new w _ _).old _).old _
 have hET : Rw W (w.heap.size + 1) 42 E := by rw [← hW]; exact (Rw.at_ (by simp) _ _).old _
 have hZT : Rw W (w.heap.size + 2) 37 Z := by rw [← hW]; exact Rw.at_ (by simp) _ _
 have hb : Below w.heap.size w W := by rw [← hW]; exact (((Below.refl _ _).alloc (Nat.le_refl _) _).alloc (by simp) _).alloc (by simp; omega) _
 have hWs : W.heap.size = w.heap.size + 3 := by rw [← hW]; simp
 have HAW := Lib.hid (h.below hb)
 have HA := Lib.hid h
 have hpa := pa_size
 have HSD : Hid ((Tryz.prog.info? 37).map (·.size) = some D.size) := by unfold Hid; rw [hDs]; exact hpa
 have HSE : Hid ((Tryz.prog.info? 42).map (·.size) = some E.size) := by unfold Hid; rw [hEs]; kernel_rfl
 have HNU := Lib.hid (pnumber_any R (.agg D) m x a W HAW.out.ref h.few ha hx.2.1)
 rw [hE] at HNU
 obtain ⟨n, hn⟩ : ∃ n, Pa.number m.l a = n := ⟨_, rfl⟩
 have hni : I64 n := by rw [← hn]; exact Pa.number_i64 h.goes.ok a (by rw [ha.1]; exact hx.2.1)
 rw [hn] at HNU ⊢
 have HDT := Lib.hid hDT
 have HET := Lib.hid hET
 have HZT := Lib.hid hZT
 have HB := Lib.hid hb
 have HWS := Lib.hid hWs
 have HEC : Hid (E[0]? = some (.int .i64 1)) := by unfold Hid; rw [← hE, ← hd]; rfl
 have HZS := Lib.hid hzs
 have HNI := Lib.hid hni
 rw [hE]
 clear hni hDT hET hZT hb hWs hE hEs hDs hZ hzs hn hpa h hd hx ha
 go_enter Tryz.func13, Tryz.ntmps13
 go_wp2_with (first
  | ((with_reducible refine gate_load 37 ?_); refine wpList_load_row rfl 37 _ rfl w.heap.size rfl 37 D (0, 0) _ HDT.out Tryz.underlying37 rfl HSD.out ?_)
  | ((with_reducible refine gate_load 42 ?_); refine wpList_load_row rfl 42 _ rfl (w.heap.size + 1) rfl 42 E (0, 0) _ HET.out Tryz.underlying42 rfl HSE.out ?_))
 refine HNU.out.mono ?_
 rintro e w1 ⟨rfl, b1⟩
 have c0 : w1.cell? ⟨w.heap.size + 1, 0, none⟩ = some (.int .i64 1) := ((HET.out.below b1 HET.out.lt).cell 0).trans HEC.out
 have HA1 := Lib.hid (HAW.out.below b1)
 have HD1 : Hid (Rw w1 w.heap.size 37 D) := HDT.out.below b1 HDT.out.lt
 have HZ1 : Hid (Rw w1 (w.heap.size + 2) 37 Z) := HZT.out.below b1 HZT.out.lt
 have HB1 : Hid (Below w.heap.size w w1) := HB.out.trans (b1.mono HB.out.size)
 have HS1 : Hid (W.heap.size ≤ w1.heap.size) := b1.size
 have HGD := Lib.hid (HA.out.goes.drop n)
 have HPD := Lib.hid (ppdrop_any n HA1.out.pager HNI.out)
 have heq : Pa.drop (Pp.asM s F) n = ((Pa.drop (Pp.asM s F) n).1, (Pa.drop m n).2) := by rw [← HGD.out.1]
 rw [HGD.out.1] at HPD
 clear b1 HNU heq
 go_wp2_with fail
 refine HPD.out.mono ?_
 rintro e w2 ⟨rfl, f2, hP2, hN2, hT2⟩
 have hlp : fp.Lt w.heap.size := ppager_lt HA.out.pager
 have hs1 : w.heap.size + 3 ≤ w1.heap.size := by have := HS1.out; have := HWS.out; omega
 have hno : ∀ q, w.heap.size ≤ q → ¬ fp.M q := fun q hq hm => by have := hlp q (.inl hm); omega
 have HD2 : Hid (Rw w2 w.heap.size 37 D) := (hT2.block _ HD1.out.lt (hno _ (Nat.le_refl _))).trans HD1.out
 have HZ2 : Hid (Rw w2 (w.heap.size + 2) 37 Z) := (hT2.block _ HZ1.out.lt (hno _ (by omega))).trans HZ1.out
 have HCB := Lib.hid (rpadrop_any R (.agg D) m n w2 (HA1.out.ref.turned_ hT2 HA.out.offp) (fun q hq => Nat.lt_of_lt_of_le (HA1.out.old q hq) hT2.size) HA.out.few)
 have HTP : Hid (TurnsP fp { s with l := (Pa.drop (Pp.asM s F) n).1.l } F b bf w1 w2) := ⟨f2, hP2, hN2, hT2⟩
 have HS3 := Lib.hid hs1
 clear hP2 hN2 hT2 hlp hs1 hno HPD
 go_wp2_with ((with_reducible refine gate_load 37 ?_); refine wpList_load_row rfl 37 _ rfl w.heap.size rfl 37 D (0, 0) _ HD2.out Tryz.underlying37 rfl HSD.out ?_)
 refine HCB.out.mono ?_
 obtain ⟨m1, hm1⟩ : ∃ x, (Pa.drop m n).1 = x := ⟨_, rfl⟩
 obtain ⟨e1, he1⟩ : ∃ x, (Pa.drop m n).2 = x := ⟨_, rfl⟩
 have HG1 : Hid (Pp.Goes { s with l := (Pa.drop (Pp.asM s F) n).1.l } F m1) := by unfold Hid; rw [← hm1]; exact HGD.out.2
 rintro e w3 ⟨v3, rfl, hv3, b3⟩
 rw [hm1] at hv3 ⊢
 rw [he1]
 obtain ⟨A, c, rfl, hf, hs, hp⟩ := hv3
 have hsz := pa_size
 rw [← paC_size m1.root A m1.l.length c m1.size] at hsz
 have hco := paC_one m1.root A m1.l.length c m1.size
 have hzc : Z.size = (paC m1.root A m1.l.length c m1.size).size := by rw [HZS.out, paC_size]
 obtain ⟨C, hC⟩ : ∃ C, paC m1.root A m1.l.length c m1.size = C := ⟨_, rfl⟩
 rw [hC] at hsz hco hzc ⊢
 have HZ3 : Hid (Rw w3 (w.heap.size + 2) 37 Z) := HZ2.out.below b3 HZ2.out.lt
 have HSZ := Lib.hid hsz
 have HV3 : Hid (PaIs w3 (RX R w2 w3) (.agg C) m1) := ⟨A, c, by rw [← hC], hf, hs, hp⟩
 have HB3 := Lib.hid b3
 have HQA : Hid (Rw (w3.alloc (.cells Z 37)) w3.heap.size 37 Z) := Rw.new w3 _ _
 have HQB : Hid (Rw ((w3.alloc (.cells Z 37)).setRow w3.heap.size C) w3.heap.size 37 C) := Rw.row HQA.out C
 have HQC : Hid (Rw ((w3.alloc (.cells Z 37)).setRow w3.heap.size C) (w.heap.size + 2) 37 Z) := (HZ3.out.old _).rowOther (by have := HZ3.out.lt; omega) _
 have HM1 := Lib.hid hm1
 clear hp hf hs hC b3 HCB hm1 he1
 go_wp2_with (first
  | ((with_reducible refine gate_store 37 ?_); refine wpList_store_row rfl 37 _ _ rfl w3.heap.size C rfl rfl 37 Z HQA.out hsz hzc hco ?_)
  | ((with_reducible refine gate_load 37 ?_); refine wpList_load_row rfl 37 _ rfl w3.heap.size rfl 37 C (0, 0) _ HQB.out Tryz.underlying37 rfl HSZ.out ?_)
  | ((with_reducible refine gate_store 37 ?_); refine wpList_store_row rfl 37 _ _ rfl (w.heap.size + 2) C rfl rfl 37 Z HQC.out hsz hzc hco ?_))
 have HTX : Hid (Turned (fun q => q = w.heap.size + 2 ∨ w3.heap.size ≤ q) w3 (((w3.alloc (.cells Z 37)).setRow w3.heap.size C).setRow (w.heap.size + 2) C)) := (((Turned.refl _ w3).alloc _).setRow (fun h => by omega) _).setRow (fun _ => .inl rfl) _
 have HRX : Hid (Rw (((w3.alloc (.cells Z 37)).setRow w3.heap.size C).setRow (w.heap.size + 2) C) (w.heap.size + 2) 37 C) := Rw.row HQC.out C
 generalize ((w3.alloc (.cells Z 37)).setRow w3.heap.size C).setRow (w.heap.size + 2) C = X at *
 clear hsz hco hzc
 try go_wp2
 have hm1 := HM1.out
 subst hm1
 refine bodyPost_ret (v := .tuple #[.agg C, .bool true]) (results_pa rfl _ _ (w.heap.size + 2) C _ _ rfl ?zx HSZ.out HRX.out) rfl (HA.out.step HB1.out HTP.out rfl ⟨rfl, by first | exact Nat.le_succ _ | exact Nat.le_refl _⟩ HG1.out HV3.out HB3.out HTX.out (fun q hq => ?_))
 case zx => rfl
 ·have := HS3.out
  rcases hq with hq | hq <;> omega
end Go.Proofs.YtiafeniflkikeaaGreat
namespace Go.Proofs.YtiafeniflkikeaaGreat
open Go.RowKit
set_option linter.unusedVariables false
def StS (n : Nat) (w4 : World) (C : Array Value) (w' : World) : Prop :=
 Turned (fun q => q = n + 2) w4 w' ∧ Rw w' w4.heap.size 37 C ∧ ∃ Z' : Array Value, Z'.size = C.size ∧ Rw w' (n + 2) 37 Z'
theorem StS.below {n : Nat} {w4 w w' : World} {C : Array Value} (h : StS n w4 C w) (hb : Below w.heap.size w w') : StS n w4 C w' := by
 obtain ⟨h1, h2, Z, h3, h4⟩ := h
 exact ⟨h1.trans (Turned.of_below hb) (fun k hk h => by have := h1.size; omega), h2.below hb h2.lt, Z, h3, h4.below hb h4.lt⟩
set_option maxHeartbeats 2000000 in
set_option maxRecDepth 100000 in
theorem pstep_add {w : World} {fp fd : Fp} {s : Pp.S} {F : List Nat} {t : Sf.St} {k b bf : Nat} {R : Nat → Prop} {v : Value} {m : Pa.M} (h : Pp.All w fp fd s F t k b bf R v m) (x : RawT) (a : Pa.Act) (free : Int) (hx : RawTOk x) {B : Nat} (hao : ActOf w B x a) (hB : B ≤ w.heap.size) (hBM : ∀ q, q < B → ¬ fp.M q) (hbl : a.body.length ≤ 140737488351232) (hd : x.do_ = 0) :
  Calls Tryz.prog 13 #[.pointer (some ⟨b, 0, none⟩), v, .agg (actC x), .int .i64 free] w (IsStep R fp fd s t k b bf (Pa.add m a.kind a.body).1 w) := by
 have hz := (zero_of_info pa_zero).1
 have ha : a.n = x.n ∧ a.any = x.any := ⟨hao.2.1, hao.2.2.1⟩
 obtain ⟨l, hl⟩ : ∃ l, a.body = l := ⟨_, rfl⟩
 obtain ⟨kd, hkd⟩ : ∃ l, a.kind = l := ⟨_, rfl⟩
 have hkx : x.kind = kd := by rw [← hkd]; exact hao.2.2.2.1.symm
 have HLV := Lib.hid hao.2.2.2.2.2
 rw [hl] at hbl HLV ⊢
 rw [hkd]
 have HKD : Hid (kd < 256) := by unfold Hid; rw [← hkx]; exact hx.2.2.1
 have HBL := Lib.hid hbl
 have HBB := Lib.hid hB
 have HBM := Lib.hid hBM
 obtain ⟨Z, hZ⟩ : ∃ Z, none9 = Z := ⟨_, rfl⟩
 have hzs : Z.size = 9 := by rw [← hZ]; rfl
 rw [hZ] at hz
 have hv9 : ∃ D : Array Value, v = .agg D ∧ D.size = 9 := by obtain ⟨A, c, e, _⟩ := h.ref; exact ⟨_, e, rfl⟩
 obtain ⟨D, rfl, hDs⟩ := hv9
 obtain ⟨E, hE⟩ : ∃ D, actC x = D := ⟨_, rfl⟩
 have hEs : E.size = 12 := by rw [← hE]; rfl
 obtain ⟨W, hW⟩ : ∃ W, ((w.alloc (.cells D 37)).alloc (.cells E 42)).alloc (.cells Z 37) = W := ⟨_, rfl⟩
 have hDT : Rw W w.heap.size 37 D := by rw [← hW]; exact ((Rw.new w _ _).old _).old _
 have hET : Rw W (w.heap.size + 1) 42 E := by rw [← hW]; exact (Rw.at_ (by simp) _ _).old _
 have hZT : Rw W (w.heap.size + 2) 37 Z := by rw [← hW]; exact Rw.at_ (by simp) _ _
 have hb : Below w.heap.size w W := by rw [← hW]; exact (((Below.refl _ _).alloc (Nat.le_refl _) _).alloc (by simp) _).alloc (by simp; omega) _
 have hWs : W.heap.size = w.heap.size + 3 := by rw [← hW]; simp
 have HAW := Lib.hid (h.below hb)
 have HA := Lib.hid h
 have hpa := pa_size
 have HSD : Hid ((Tryz.prog.info? 37).map (·.size) = some D.size) := by unfold Hid; rw [hDs]; exact hpa
 have HSE : Hid ((Tryz.prog.info? 42).map (·.size) = some E.size) := by unfold Hid; rw [hEs]; kernel_rfl
 have HNU := Lib.hid (pnumber_any R (.agg D) m x a W HAW.out.ref h.few ha hx.2.1)
 rw [hE] at HNU
 obtain ⟨n, hn⟩ : ∃ n, Pa.number m.l a = n := ⟨_, rfl⟩
 have hni : I64 n := by rw [← hn]; exact Pa.number_i64 h.goes.ok a (by rw [ha.1]; exact hx.2.1)
 rw [hn] at HNU
 have HDT := Lib.hid hDT
 have HET := Lib.hid hET
 have HZT := Lib.hid hZT
 have HB := Lib.hid hb
 have HWS := Lib.hid hWs
 have HEC : Hid (E[0]? = some (.int .i64 0)) := by unfold Hid; rw [← hE, ← hd]; rfl
 have HE3 : Hid (E[3]? = some (.int .u8 (kd : Nat))) := by unfold Hid; rw [← hE, ← hkx]; rfl
 have HE4 : Hid (E[4]? = some (.slice x.A x.m x.c)) := by unfold Hid; rw [← hE]; rfl
 have HZS := Lib.hid hzs
 have HNI := Lib.hid hni
 rw [hE]
 clear hao hB hBM hbl hkx hl hkd hni hDT hET hZT hb hWs hE hEs hDs hZ hzs hn hpa h hd hx ha
 go_enter Tryz.func13, Tryz.ntmps13
 go_wp2_with (first
  | ((with_reducible refine gate_load 37 ?_); refine wpList_load_row rfl 37 _ rfl w.heap.size rfl 37 D (0, 0) _ HDT.out Tryz.underlying37 rfl HSD.out ?_)
  | ((with_reducible refine gate_load 42 ?_); refine wpList_load_row rfl 42 _ rfl (w.heap.size + 1) rfl 42 E (0, 0) _ HET.out Tryz.underlying42 rfl HSE.out ?_))
 refine HNU.out.mono ?_
 rintro e w1 ⟨rfl, b1⟩
 have c0 : w1.cell? ⟨w.heap.size + 1, 0, none⟩ = some (.int .i64 0) := ((HET.out.below b1 HET.out.lt).cell 0).trans HEC.out
 have HA1 := Lib.hid (HAW.out.below b1)
 have HD1 : Hid (Rw w1 w.heap.size 37 D) := HDT.out.below b1 HDT.out.lt
 have HZ1 : Hid (Rw w1 (w.heap.size + 2) 37 Z) := HZT.out.below b1 HZT.out.lt
 have HB1 : Hid (Below w.heap.size w w1) := HB.out.trans (b1.mono HB.out.size)
 have HS1 : Hid (W.heap.size ≤ w1.heap.size) := b1.size
 have HE1 : Hid (Rw w1 (w.heap.size + 1) 42 E) := HET.out.below b1 HET.out.lt
 have c4 : w1.cell? ⟨w.heap.size + 1, 4, none⟩ = some (.slice x.A x.m x.c) := (HE1.out.cell 4).trans HE4.out
 have HL1 : Hid (Lv yK w1 B (.slice x.A x.m x.c) l) := HLV.out.below_ HB1.out HBB.out
 clear b1 HNU
 go_wp2_with fail
 refine (wide_far _ l B w1 (Nat.le_trans HBB.out HB1.out.size) HL1.out.bv_ HBL.out).mono ?_
 rintro e w2 ⟨g, rfl, o2, b2⟩
 have HO2 := Lib.hid o2
 have HB2 := Lib.hid b2
 have hs1 : w.heap.size + 3 ≤ w1.heap.size := by have := HS1.out; have := HWS.out; omega
 have HS3 := Lib.hid hs1
 have HE2 : Hid (Rw w2 (w.heap.size + 1) 42 E) := HE1.out.below b2 HE1.out.lt
 have HD2 : Hid (Rw w2 w.heap.size 37 D) := HD1.out.below b2 HD1.out.lt
 have HZ2 : Hid (Rw w2 (w.heap.size + 2) 37 Z) := HZ1.out.below b2 HZ1.out.lt
 have HA2 := Lib.hid (HA1.out.below b2)
 have HL2 : Hid (Lv yK w2 B (.slice x.A x.m x.c) l) := HL1.out.below_ b2 (Nat.le_trans HBB.out HB1.out.size)
 have HBW2 : Hid (Below w.heap.size w w2) := HB1.out.trans (b2.mono HB1.out.size)
 have hg : w1.heap.size ≤ g := (o2.lt_ g rfl).1
 have HG := Lib.hid hg
 have hlp : fp.Lt w.heap.size := ppager_lt HA.out.pager
 have hno : ∀ q, w.heap.size ≤ q → ¬ fp.M q := fun q hq hm => by have := hlp q (.inl hm); omega
 have HNO := Lib.hid hno
 have hF2 := o2.form_
 have HF2 := Lib.hid hF2.lv_
 have h2 := hF2.take_ (k := l.length) (by simp)
 rw [List.take_left] at h2
 have HGA := Lib.hid (HA.out.goes.add (kd := kd) (b := l) HKD.out (fun y hy => by obtain ⟨_, _, _, _, _, _, hx, _⟩ := HLV.out.bv_; exact hx y hy))
 have HPA := Lib.hid (ppadd_any kd _ l _ HA2.out.pager HKD.out h2.lv_ (Nat.le_refl _) (fun _ q hq => by have : g = q := Option.some.inj hq; exact hno q (by omega)))
 have c3 : w2.cell? ⟨w.heap.size + 1, 3, none⟩ = some (.int .u8 (kd : Nat)) := (HE2.out.cell 3).trans HE3.out
 rw [HGA.out.1] at HPA
 clear o2 b2 hs1 hg hlp hno hF2 h2 HL1 HO2 c4 c0
 go_wp2_with fail
 refine HPA.out.mono ?_
 rintro e w3 ⟨rfl, f3, hP3, hN3, hT3⟩
 have HTP : Hid (TurnsP fp { s with l := (Pa.add (Pp.asM s F) kd l).1.l } F b bf w2 w3) := ⟨f3, hP3, hN3, hT3⟩
 have HD3 : Hid (Rw w3 w.heap.size 37 D) := (hT3.block _ HD2.out.lt (HNO.out _ (Nat.le_refl _))).trans HD2.out
 have HZ3 : Hid (Rw w3 (w.heap.size + 2) 37 Z) := (hT3.block _ HZ2.out.lt (HNO.out _ (by omega))).trans HZ2.out
 have HE3' : Hid (Rw w3 (w.heap.size + 1) 42 E) := (hT3.block _ HE2.out.lt (HNO.out _ (by omega))).trans HE2.out
 have c3 : w3.cell? ⟨w.heap.size + 1, 3, none⟩ = some (.int .u8 (kd : Nat)) := (HE3'.out.cell 3).trans HE3.out
 have c4 : w3.cell? ⟨w.heap.size + 1, 4, none⟩ = some (.slice x.A x.m x.c) := (HE3'.out.cell 4).trans HE4.out
 have HL3 : Hid (Lv yK w3 B (.slice x.A x.m x.c) l) := HL2.out.turned_ hT3 HBM.out
 have HF3 := Lib.hid (HF2.out.turnedB_ hT3 (fun _ q hq => by have : g = q := Option.some.inj hq; have := HG.out; have := HS3.out; exact HNO.out q (by omega)))
 have HW3 := Lib.hid hT3.size
 have HCB := Lib.hid (rpaadd_any R (.agg D) m kd _ l w3 (HA2.out.ref.turned_ hT3 HA.out.offp) (fun q hq => Nat.lt_of_lt_of_le (HA2.out.old q hq) hT3.size) HA.out.few HKD.out (HL3.out.mono_ (by have := HBB.out; have := HBW2.out.size; have := hT3.size; omega)))
 clear hP3 hN3 hT3 HPA
 go_wp2_with ((with_reducible refine gate_load 37 ?_); refine wpList_load_row rfl 37 _ rfl w.heap.size rfl 37 D (0, 0) _ HD3.out Tryz.underlying37 rfl HSD.out ?_)
 refine HCB.out.mono ?_
 obtain ⟨m1, hm1⟩ : ∃ x, (Pa.add m kd l).1 = x := ⟨_, rfl⟩
 obtain ⟨n1, hn1⟩ : ∃ x, (Pa.add m kd l).2.1 = x := ⟨_, rfl⟩
 obtain ⟨e1, he1⟩ : ∃ x, (Pa.add m kd l).2.2 = x := ⟨_, rfl⟩
 have HG1 : Hid (Pp.Goes { s with l := (Pa.add (Pp.asM s F) kd l).1.l } F m1) := by unfold Hid; rw [← hm1]; exact HGA.out.2
 rintro e w4 ⟨v4, rfl, hv4, b4⟩
 rw [hm1] at hv4 ⊢
 rw [hn1, he1]
 obtain ⟨A, c, rfl, hf, hs, hp⟩ := hv4
 have hsz := pa_size
 rw [← paC_size m1.root A m1.l.length c m1.size] at hsz
 have hco := paC_one m1.root A m1.l.length c m1.size
 have hzc : Z.size = (paC m1.root A m1.l.length c m1.size).size := by rw [HZS.out, paC_size]
 obtain ⟨C, hC⟩ : ∃ C, paC m1.root A m1.l.length c m1.size = C := ⟨_, rfl⟩
 rw [hC] at hsz hco hzc ⊢
 have HZ4 : Hid (Rw w4 (w.heap.size + 2) 37 Z) := HZ3.out.below b4 HZ3.out.lt
 have HE5 : Hid (Rw w4 (w.heap.size + 1) 42 E) := HE3'.out.below b4 HE3'.out.lt
 have HSZ := Lib.hid hsz
 have HCO := Lib.hid hco
 have HZC := Lib.hid hzc
 have HV4 : Hid (PaIs w4 (RX R w3 w4) (.agg C) m1) := ⟨A, c, by rw [← hC], hf, hs, hp⟩
 have HB4 := Lib.hid b4
 have HF4 := Lib.hid (HF3.out.below_ b4 HW3.out)
 have HL4 := Lib.hid (HL3.out.below_ b4 (by have := HBB.out; have := HBW2.out.size; have := HW3.out; omega))
 have HQA : Hid (Rw (w4.alloc (.cells Z 37)) w4.heap.size 37 Z) := Rw.new w4 _ _
 have HM1 := Lib.hid hm1
 clear hp hf hs hC b4 HCB hm1 he1 hn1 c3 c4
 go_wp2_with ((with_reducible refine gate_store 37 ?_); refine wpList_store_row rfl 37 _ _ rfl w4.heap.size C rfl rfl 37 Z HQA.out hsz hzc hco ?_)
 clear hsz hzc hco
 have HX : Hid (Rw ((w4.alloc (.cells Z 37)).setRow w4.heap.size C) w4.heap.size 37 C) := Rw.row HQA.out C
 have HTX : Hid (Turned (fun q => q = w.heap.size + 2) w4 ((w4.alloc (.cells Z 37)).setRow w4.heap.size C)) := ((Turned.refl _ w4).alloc _).setRow (fun h => by omega) _
 have HZX : Hid (Rw ((w4.alloc (.cells Z 37)).setRow w4.heap.size C) (w.heap.size + 2) 37 Z) := (HZ4.out.old _).rowOther (by have := HZ4.out.lt; omega) _
 generalize (w4.alloc (.cells Z 37)).setRow w4.heap.size C = X at *
 have hS0 : StS w.heap.size w4 C X.drew := ⟨HTX.out.drew, HX.out, Z, HZC.out, HZX.out⟩
 have HC4 : Hid (∀ w', StS w.heap.size w4 C w' → w'.cell? ⟨w.heap.size + 1, 4, none⟩ = some (.slice x.A x.m x.c)) := fun w' h => by
  have h5 : Rw w' (w.heap.size + 1) 42 E := (h.1.block _ HE5.out.lt (by omega)).trans HE5.out
  exact (h5.cell 4).trans HE4.out
 have hg2 : w.heap.size + 3 ≤ g := by have := HG.out; have := HS3.out; omega
 have HLF : Hid (∀ w', StS w.heap.size w4 C w' → Calls Tryz.prog 49 #[.slice (some ⟨g, 0, none⟩) l.length (l.length + 3), .slice x.A x.m x.c] w' (IsBool true w')) := fun w' h =>
  left_any g l _ _ _ w' (HF4.out.turnedB_ h.1 (fun _ q hq => by have : g = q := Option.some.inj hq; omega)).bv_ (HL4.out.turned_ h.1 (fun q hq h => by have := HBB.out; omega)).bv_
 clear HQA HX HTX HZX hg2
 refine wp_region_held_drew (S := StS w.heap.size w4 C) (by kernel_rfl) hS0 (fun hH => ?_)
 refine zH (i := 0) (v := .agg C) rfl (by kernel_rfl) (fun _ _ _ h => h) (Or.inl ⟨by rfl, fun w' hSw => exec_load_row _ _ rfl w4.heap.size rfl 37 C (0, 0) _ w' hSw.2.1 Tryz.underlying37 rfl HSZ.out⟩) hH ?_
 try simp only [Act.put, zA, zC, zD, zE, zF]
 refine zH (i := 1) (v := ?_) rfl (by kernel_rfl) (fun _ _ _ h => h) (Or.inl ⟨by rfl, (by intro w' hSw; go_simp; first | done | with_reducible rfl)⟩) hH ?_
 try simp only [Act.put, zA, zB, zC, zD, zE, zF]
 refine zH (i := 2) (v := ?_) rfl (by kernel_rfl) (fun _ _ _ h => h) (Or.inl ⟨by rfl, (by intro w' hSw; go_simp; first | done | with_reducible rfl)⟩) hH ?_
 try simp only [Act.put, zA, zB, zC, zD, zE, zF]
 refine zH (i := 3) (v := ?_) rfl (by kernel_rfl) (fun _ _ _ h => h) (Or.inl ⟨by rfl, (by intro w' hSw; go_simp; first | done | with_reducible rfl)⟩) hH ?_
 try simp only [Act.put, zA, zB, zC, zD, zE, zF]
 refine zH (i := 4) (v := ?_) rfl (by kernel_rfl) (fun _ _ _ h => h) (Or.inl ⟨by rfl, (by intro w' hSw; go_simp; first | done | with_reducible rfl)⟩) hH ?_
 try simp only [Act.put, zA, zB, zC, zD, zE, zF]
 refine zH (i := 5) (v := ?_) rfl (by kernel_rfl) (fun _ _ _ h => h) (Or.inl ⟨by rfl, (by intro w' hSw; go_simp; first | done | with_reducible rfl)⟩) hH ?_
 try simp only [Act.put, zA, zB, zC, zD, zE, zF]
 refine zH (i := 6) (v := ?_) rfl (by kernel_rfl) (fun _ _ _ h => h) (Or.inl ⟨by rfl, (by intro w' hSw; go_simp; first | done | with_reducible rfl)⟩) hH ?_
 try simp only [Act.put, zA, zB, zC, zD, zE, zF]
 refine zH (i := 7) (v := ?_) rfl (by kernel_rfl) (fun _ _ _ h => h) (Or.inl ⟨by rfl, (by intro w' hSw; go_simp; first | done | with_reducible rfl)⟩) hH ?_
 try simp only [Act.put, zA, zB, zC, zD, zE, zF]
 refine zH (i := 8) (v := ?_) rfl (by kernel_rfl) (fun _ _ _ h => h) (Or.inl ⟨by rfl, (by intro w' hSw; go_simp; first | done | with_reducible rfl)⟩) hH ?_
 try simp only [Act.put, zA, zB, zC, zD, zE, zF]
 refine zH (i := 9) (v := ?_) rfl (by kernel_rfl) (fun _ _ _ h => h) (Or.inl ⟨by rfl, (by intro w' hSw; go_simp; first | done | with_reducible rfl)⟩) hH ?_
 try simp only [Act.put, zA, zB, zC, zD, zE, zF]
 refine zH (i := 10) (v := ?_) rfl (by kernel_rfl) (fun _ _ _ h => h) (Or.inl ⟨by rfl, (by intro w' hSw; go_simp; first | done | with_reducible rfl)⟩) hH ?_
 try simp only [Act.put, zA, zB, zC, zD, zE, zF]
 refine zH (i := 11) (v := ?_) rfl (by kernel_rfl) (fun _ _ _ h => h) (Or.inl ⟨by rfl, (by intro w' hSw; go_simp; first | done | with_reducible rfl)⟩) hH ?_
 try simp only [Act.put, zA, zB, zC, zD, zE, zF]
 refine zH (i := 12) (v := ?_) rfl (by kernel_rfl) (fun _ _ _ h => h) (Or.inl ⟨by rfl, (by intro w' hSw; have s1 := HC4.out w' hSw; go_simp; first | done | with_reducible rfl)⟩) hH ?_
 try simp only [Act.put, zA, zB, zC, zD, zE, zF]
 refine wpAnyH_ready (rs := [13]) (by kernel_rfl) (by simp) ?_
 refine AllReadyH.cons rfl (fun K hK => ?_) AllReadyH.nil
 go_simp
 refine (HLF.out _ hS0).mono ?_
 rintro e w5 ⟨rfl, b5⟩
 have hS1 : StS w.heap.size w4 C w5 := hS0.below b5
 refine hK.out _ _ hS1 (fun hH => ?_)
 clear hK K hS0 b5
 try simp only [Act.put, zA, zB, zC, zD, zE, zF]
 refine zH (i := 14) (v := ?_) rfl (by kernel_rfl) (fun _ _ _ h => h) (Or.inl ⟨by rfl, (by intro w' hSw; go_simp; first | done | with_reducible rfl)⟩) hH ?_
 try simp only [Act.put, zA, zB, zC, zD, zE, zF]
 refine wpAnyH_ready (rs := [15]) (by kernel_rfl) (by simp) ?_
 refine AllReadyH.cons rfl (fun K hK => ?_) AllReadyH.nil
 rw [if_pos (by rfl)]
 obtain ⟨hT5, hC5, Z5, hz5, hZ5⟩ := hS1
 refine wp_store_row 37 (.tmp 8) (.tmp 63) rfl (w.heap.size + 2) C rfl rfl 37 Z5 hZ5 HSZ.out hz5 HCO.out ?_
 have HR6 : Hid (Rw (w5.setRow (w.heap.size + 2) C) (w.heap.size + 2) 37 C) := Rw.row hZ5 C
 have hS6 : StS w.heap.size w4 C (w5.setRow (w.heap.size + 2) C) := ⟨hT5.setRow (fun _ => rfl) _, hC5.rowOther (by have := HZ4.out.lt; omega) _, C, rfl, HR6.out⟩
 refine hK.out _ _ hS6 (fun hH => ?_)
 clear hK K
 try simp only [Act.put, zA, zB, zC]
 refine zH (i := 16) (v := ?_) rfl (by kernel_rfl) (fun _ _ _ h => h) (Or.inl ⟨by rfl, (by intro w' hSw; go_simp; first | done | with_reducible rfl)⟩) hH ?_
 try simp only [Act.put, zA, zB, zC, zD, zE, zF]
 refine wpAnyH_done (by kernel_rfl) ?_ _
 have HT6 := Lib.hid hS6.1
 clear hH hS6 hC5 hT5 hZ5
 generalize w5.setRow (w.heap.size + 2) C = X6 at *
 try go_wp2
 have hm1 := HM1.out
 subst hm1
 refine bodyPost_ret (v := .tuple #[.agg C, .bool true]) (results_pa rfl _ _ (w.heap.size + 2) C _ _ rfl rfl HSZ.out HR6.out) rfl (HA.out.step HBW2.out HTP.out rfl ⟨rfl, by first | exact Nat.le_succ _ | exact Nat.le_refl _⟩ HG1.out HV4.out HB4.out HT6.out (fun q hq => ?_))
 have := HS3.out
 have := HB2.out.size
 omega
end Go.Proofs.YtiafeniflkikeaaGreat
