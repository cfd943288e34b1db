/- Parts of the proof. -/
import Derived.Test.YtiafeniflkikeaaGreatPm43
import Derived.Test.YtiafeniflkikeaaGreatPm08
import Derived.Test.YtiafeniflkikeaaGreatPm41
import Derived.Test.YtiafeniflkikeaaGreatPm09
import Derived.Lib.SlBytesConst
import Derived.Test.YtiafeniflkikeaaGreatPm13
import Derived.Test.YtiafeniflkikeaaGreatPm21
namespace Go.Proofs.YtiafeniflkikeaaGreat
open Go.RowKit
theorem same_bv (v v' : Value) (la lb : List Nat) (B B' : Nat) (w : World) (h : Bv w B v la) (h' : Bv w B' v' lb) :
  Calls Tryz.prog 40 #[v, v'] w (IsBool (decide (la = lb)) w) := by
 obtain ⟨A, c, rfl, h1, h2, h3, h4⟩ := h
 obtain ⟨A', c', rfl, h1', h2', h3', h4'⟩ := h'
 exact same_any A A' la lb c c' B B' w h4 h4' (by omega) (by omega)
end Go.Proofs.YtiafeniflkikeaaGreat
namespace Go.Proofs.YtiafeniflkikeaaGreat
open Go.RowKit
set_option linter.unusedVariables false
def Pp.t1 (F : List Nat) (a : Nat) : Sf.St := { (Sf.new 16384) with files := [⟨F, []⟩], seen := Sf.with_ [] ⟨#[105]⟩ 0, row := [] ++ [Sf.with_ [] ⟨#[105]⟩ 0], acts := a }
theorem Pp.t1_get (F : List Nat) (a : Nat) : Sf.get (Pp.t1 F a) ⟨#[105]⟩ = (0, 0) := by
 unfold Sf.get Pp.t1
 rw [if_neg (by intro h; cases h)]
 have : Sf.find (Sf.with_ [] ⟨#[105]⟩ 0) ⟨#[105]⟩ = some 0 := by decide +kernel
 show (match Sf.find (Sf.with_ [] ⟨#[105]⟩ 0) ⟨#[105]⟩ with | none => (0, 7) | some n => (n, 0)) = (0, 0)
 rw [this]
theorem Pp.t1_file (F : List Nat) (a : Nat) : Sf.now (Sf.fileAt (Pp.t1 F a) 0) = F := rfl
theorem Pp.t1_used (F : List Nat) (a : Nat) : Sf.used (Pp.t1 F a) = F.length := by
 have e : Sf.with_ [] (⟨#[105]⟩ : ByteArray) 0 = [(⟨#[105]⟩, 0)] := rfl
 unfold Sf.used
 rw [if_neg (by intro h; cases h)]
 show Sf.lens (Pp.t1 F a) (Sf.with_ [] ⟨#[105]⟩ 0) = _
 rw [e]
 simp [Sf.lens, Sf.len, Pp.t1_file]
def Pa.two : Pa.M := ⟨Pa.new.root, [⟨2, 2, 9, [97]⟩, ⟨3, 2, 9, [98]⟩], 1024⟩
theorem Pa.two_is : (Pa.add (Pa.add Pa.new 9 [97]).1 9 [98]).1 = Pa.two := by kernel_rfl
theorem Pa.two_com : (Pa.commit Pa.two ⟨0, 2, 0, 0, 1, 0, 0⟩ 15360).2 = 0 := by decide +kernel
theorem Pa.two_read : Pa.read (Pa.commit Pa.two ⟨0, 2, 0, 0, 1, 0, 0⟩ 15360).1.l 3 = (9, [98], 0) := by decide +kernel
theorem Pa.two_seq : (Pa.commit Pa.two ⟨0, 2, 0, 0, 1, 0, 0⟩ 15360).1.root.seq = 2 := by decide +kernel
def oneB (x : Nat) : Obj := .cells #[.int .u8 (x : Nat)] 5 (1, 2)
theorem Bv.oneB_ (w : World) (x : Nat) (hx : x < 256) : Bv (w.alloc (oneB x)) (w.heap.size + 1) (.slice (some ⟨w.heap.size, 0, none⟩) 1 1) [x] := by
 refine ⟨some ⟨w.heap.size, 0, none⟩, 1, rfl, by simp, by simp [maxLen], by simp, by simpa using hx, fun _ => ⟨w.heap.size, 0, rfl, by omega, fun j c hj => ?_⟩⟩
 unfold oneB
 rw [Nat.zero_add, World.cell?_alloc_mark]
 have hl : j < 1 := (List.getElem?_eq_some_iff.1 hj).1
 match j, hl with
 | 0, _ => simp at hj; subst hj; rfl
theorem conv_one (w : World) (x : Nat) : (convert 40 40 (.slice (some ⟨w.heap.size, 0, none⟩) 1 1)).run Tryz.prog (w.alloc (.cells #[.int .u8 (x : Nat)] 5)) = .ok (.slice (some ⟨w.heap.size, 0, none⟩) 1 1) (w.alloc (oneB x)) :=
 Lib.run_convert_bytes_const w 40 5 #[.int .u8 (x : Nat)] 1 1 Tryz.underlying40 Tryz.underlying5
theorem root_seq (u a b c d e f : Value) (w : World) : (Instr.field 34 (.agg #[u, a, b, c, d, e, f]) 0).run Tryz.prog w = .ok u w := by
 simp [Instr.field, go_sem, part, run_underlying Tryz.underlying34, asAgg]
set_option maxHeartbeats 2000000 in
set_option maxRecDepth 100000 in
theorem plives_any (w : World) : Calls Tryz.prog 8 #[] w (IsBool true w) := by
 have hz7 := (zero_of_info (n := 7) rt_zero).1
 have HN := Lib.hid (pnew_any 16384 (by unfold I64; omega) w)
 simp only [show ¬ ((16384 : Int) < 0 ∨ (1048576 : Int) < 16384) by omega, if_false] at HN
 go_enter Tryz.func8, Tryz.ntmps8
 go_wp2_with fail
 refine HN.out.mono ?_
 rintro e w1 ⟨b0, f0, rfl, hD1, hF1, hB1⟩
 have HB1 := Lib.hid hB1
 have HF1 := Lib.hid hF1
 have HMK := Lib.hid (ppmake_any ⟨#[105]⟩ hD1 (by decide +kernel) rfl rfl rfl (by decide +kernel) (by decide) (by show 0 ≤ _; omega))
 clear hD1 hB1 hF1 HN
 go_wp2_with fail
 refine HMK.out.mono ?_
 rintro e w2 ⟨x2, t2, f2, rfl, hD2, hN2, hT2, hac, hcase⟩
 have hu : Sf.used (Sf.new (16384 : Int).toNat) = 0 := rfl
 rcases hcase with ⟨hc, _⟩ | ⟨_, rfl, ht2⟩
 ·exfalso; rw [hu] at hc; exact absurd hc (by decide)
 have e2 : t2 = Pp.t1 Pp.made t2.acts := ht2
 obtain ⟨a2, ha2⟩ : ∃ a, t2.acts = a := ⟨_, rfl⟩
 rw [ha2] at e2 hac
 subst e2
 clear ht2 hu HMK
 have hop := Pp.open_made (Pp.t1_get Pp.made a2) (Pp.t1_file Pp.made a2) 4 (by omega) (by omega)
 have HOP := Lib.hid (ppopen_some ⟨#[105]⟩ 4 hD2 (by decide +kernel) (by unfold I64; omega) _ hop)
 rw [Pp.t1_get, Pp.t1_file] at HOP
 have HD2 := Lib.hid hD2
 have HW2 : Hid (Below w.heap.size w w2) := HB1.out.trans (hT2.below HB1.out.size (fun q hq => HF1.out q (.inl hq)))
 have HF2 : Hid (f2.From w.heap.size) := hN2.from_ HF1.out HB1.out.size
 have HAC : Hid (a2 ≤ 600) := hac
 clear hD2 hN2 hT2 hac hop
 go_wp2_with fail
 refine HOP.out.mono ?_
 rintro e w3 ⟨b3, b, f3, rfl, hP3, hfr3⟩
 have HW3 : Hid (Below w.heap.size w w3) := HW2.out.trans (b3.mono HW2.out.size)
 have HG3 := Lib.hid (Pp.goes_new ⟨#[105]⟩ (4 : Int).toNat)
 have HP3 := Lib.hid hP3
 have HD3 := Lib.hid (pdisk_law.below HD2.out b3)
 have HF3 : Hid (f3.From w2.heap.size) := hfr3
 have HS3 := Lib.hid b3.size
 have HO3 := Lib.hid (Bv.oneB_ w3 97 (by decide))
 have HA3 := Lib.hid (ppadd_any 9 _ [97] _ (ppager_turned HP3.out (alloc_turned w3 (oneB 97)) (fun _ h => h.elim)) (by decide) HO3.out.lv_ (by simp) (fun _ q hq hm => by have e : w3.heap.size = q := Option.some.inj hq; have := ppager_lt HP3.out q (.inl hm); omega))
 have hg3 := HG3.out.add (kd := 9) (b := [97]) (by decide) (by decide)
 have x3 : (Pa.add Pa.new 9 [97]).2 = (2, 0) := by kernel_rfl
 rw [hg3.1, x3] at HA3
 have hcv : (convert 40 40 (.slice (some ⟨w3.heap.size, 0, none⟩) 1 1)).run Tryz.prog (w3.alloc (.cells #[.int .u8 97] 5)) = .ok (.slice (some ⟨w3.heap.size, 0, none⟩) 1 1) (w3.alloc (oneB 97)) := conv_one w3 97
 clear hP3 hfr3 b3 HOP
 go_wp2_with fail
 refine HA3.out.mono ?_
 rintro e w4 ⟨rfl, f4, hP4, hN4, hT4⟩
 obtain ⟨s4, hs4⟩ : ∃ s : Pp.S, ({ (⟨⟨#[105]⟩, Pa.new.root, (4 : Int).toNat, [], 0⟩ : Pp.S) with l := (Pa.add (Pp.asM ⟨⟨#[105]⟩, Pa.new.root, (4 : Int).toNat, [], 0⟩ Pp.made) 9 [97]).1.l } : Pp.S) = s := ⟨_, rfl⟩
 have hn4 : s4.name = ⟨#[105]⟩ ∧ s4.turns = 0 := by rw [← hs4]; exact ⟨rfl, rfl⟩
 have hg4 := hg3.2
 rw [hs4] at hg4 hP4
 have HG4 := Lib.hid hg4
 have HP4 := Lib.hid hP4
 have HF4 : Hid (f4.From w2.heap.size) := hN4.from_ HF3.out (by have := HS3.out; simp; omega)
 have hd2 : f2.Lt w2.heap.size := pdisk_law.lt HD2.out
 have HD4 : Hid (PDisk w4 f2 (Pp.t1 Pp.made a2) b0) := pdisk_law.turned (pdisk_law.alloc HD3.out (oneB 97)) hT4 (hd2.off fun q hq => HF3.out q (.inl hq))
 have HT4 : Hid (Below w2.heap.size w3 w4) := ((Below.refl w2.heap.size w3).alloc HS3.out (oneB 97)).trans (hT4.below (by have := HS3.out; simp; omega) (fun q hq => HF3.out q (.inl hq)))
 have HO4 := Lib.hid (Bv.oneB_ w4 98 (by decide))
 have HA4 := Lib.hid (ppadd_any 9 _ [98] _ (ppager_turned HP4.out (alloc_turned w4 (oneB 98)) (fun _ h => h.elim)) (by decide) HO4.out.lv_ (by simp) (fun _ q hq hm => by have e : w4.heap.size = q := Option.some.inj hq; have := ppager_lt HP4.out q (.inl hm); omega))
 have hg5 := hg4.add (kd := 9) (b := [98]) (by decide) (by decide)
 have x4 : (Pa.add (Pa.add Pa.new 9 [97]).1 9 [98]).2 = (3, 0) := by kernel_rfl
 rw [hg5.1, x4] at HA4
 rw [Pa.two_is] at hg5
 have hcv2 : (convert 40 40 (.slice (some ⟨w4.heap.size, 0, none⟩) 1 1)).run Tryz.prog (w4.alloc (.cells #[.int .u8 98] 5)) = .ok (.slice (some ⟨w4.heap.size, 0, none⟩) 1 1) (w4.alloc (oneB 98)) := conv_one w4 98
 have HS4 : Hid (w3.heap.size ≤ w4.heap.size) := HT4.out.size
 clear hs4 hg3 hg4 hP4 hN4 hT4 hcv HA3 x3 x4 hd2
 go_wp2_with fail
 refine HA4.out.mono ?_
 rintro e w5 ⟨rfl, f5, hP5, hN5, hT5⟩
 obtain ⟨s5, hs5⟩ : ∃ s : Pp.S, ({ s4 with l := (Pa.add (Pp.asM s4 Pp.made) 9 [98]).1.l } : Pp.S) = s := ⟨_, rfl⟩
 have hn5 : s5.name = ⟨#[105]⟩ := by rw [← hs5]; exact hn4.1
 have ht5 : s5.turns = 0 := by rw [← hs5]; exact hn4.2
 have hg6 := hg5.2
 rw [hs5] at hg6 hP5
 have HG5 := Lib.hid hg6
 have HF5 : Hid (f5.From w2.heap.size) := hN5.from_ HF4.out (by have := HS3.out; have := HS4.out; simp; omega)
 have hd2 : f2.Lt w2.heap.size := pdisk_law.lt HD2.out
 have hd5 : PDisk w5 f2 (Pp.t1 Pp.made a2) b0 := pdisk_law.turned (pdisk_law.alloc HD4.out (oneB 98)) hT5 (hd2.off fun q hq => HF4.out q (.inl hq))
 have HT5 : Hid (Below w2.heap.size w4 w5) := ((Below.refl w2.heap.size w4).alloc (by have := HS3.out; have := HS4.out; omega) (oneB 98)).trans (hT5.below (by have := HS3.out; have := HS4.out; simp; omega) (fun q hq => HF4.out q (.inl hq)))
 have HW5 : Hid (Below w.heap.size w w5) := HW3.out.trans ((HT4.out.trans HT5.out).mono HW2.out.size)
 have hr : Rt.Fit ⟨0, 2, 0, 0, 1, 0, 0⟩ := ⟨by decide, by unfold I64; decide, by unfold I64; decide, by decide, by decide, by unfold I64; decide, by unfold I64; decide⟩
 have HCM := Lib.hid (ppcommit_any ⟨0, 2, 0, 0, 1, 0, 0⟩ 0 hP5 hd5 ⟨HF5.out.off fun q hq => hd2 q (.inl hq), hd2.off fun q hq => HF5.out q (.inl hq)⟩ hr (by show a2 ≤ _; have := HAC.out; omega) (by omega) (by rw [Pp.t1_used, Pp.made_len]; show 1024 ≤ 16384; decide) (by rw [hn5]; exact Pp.t1_get _ _) (Pp.t1_file _ _))
 have hbt : (none7.setIfInBounds 1 (.int .i64 2)).setIfInBounds 4 (.int .u64 1) = rtC ⟨0, 2, 0, 0, 1, 0, 0⟩ := by kernel_rfl
 have h5 : ¬ none7.size < 5 := by decide
 have HCO : Hid (Pp.cost s5 (Pp.t1 Pp.made a2) ≤ 600) := by unfold Hid Pp.cost; rw [ht5]; have := HAC.out; show max a2 0 ≤ 600; omega
 have HWE : Hid (Pp.Well (Pp.t1 Pp.made a2) s5.name 0 Pp.made) := ⟨rfl, rfl, by rw [hn5]; exact Pp.t1_get _ _, Pp.t1_file _ _, by rw [Pp.t1_used, Pp.made_len]; show 1024 ≤ 16384; decide, by rw [show (Pp.t1 Pp.made a2).seen = [(⟨#[105]⟩, 0)] from rfl]; simp⟩
 obtain ⟨RC, hRC⟩ : ∃ D, rtC ⟨0, 2, 0, 0, 1, 0, 0⟩ = D := ⟨_, rfl⟩
 rw [hRC] at hbt HCM
 clear ht5 hs5 hg5 hg6 hP5 hN5 hT5 hcv2 HA4 hd2 hd5 hr hRC
 go_wp2_with fail
 refine HCM.out.mono ?_
 rintro e w6 ⟨x6, s6, F6, t6, f6, d6, rfl, hcom, hD6, hM6, hpp, hT6⟩
 have hcg := hcom.goes (free := 15360) HG5.out HWE.out (by rw [Pp.t1_used, Pp.made_len]; rfl)
 obtain ⟨hP6, hN6, hap6⟩ := hpp hcg.2.2.1.dead
 obtain ⟨hx6, hg6, hw6, hn6, -, -, hco⟩ := hcg
 have htn6 : s6.turns ≤ 1099511627776 := by have h1 := HCO.out; have h2 : s6.turns ≤ Pp.cost s6 t6 := Nat.le_max_right _ _; omega
 rw [Pa.two_com] at hx6
 subst hx6
 have hw6' : Sf.get t6 s6.name = (0, 0) := by rw [hn6]; exact hw6.get
 have HRD := Lib.hid (ppread_any 3 0 hP6 hD6 (by unfold I64; decide) hw6.dead hw6' hw6.file htn6)
 have hrd : Pp.readE s6 F6 3 = (9, [98], 0) := (Pp.find_bare hg6 3).trans Pa.two_read
 rw [hrd] at HRD
 have HSQ : Hid (s6.root.seq = 2) := by unfold Hid; rw [hg6.root]; exact Pa.two_seq
 have HW6 : Hid (Below w.heap.size w w6) := HW5.out.trans (hT6.below HW5.out.size (fun q hq => by
  have h1 := HW2.out.size
  rcases hq with hq | hq
  ·have := HF5.out q (.inl hq); omega
  ·exact HF2.out q (.inl hq)))
 have HF6 : Hid (f6.From w.heap.size) := hN6.from_ (HF5.out.mono HW2.out.size) HW5.out.size
 clear hco htn6 hcom hD6 hM6 hpp hT6 hP6 hN6 hap6 hg6 hw6 hn6 hw6' hrd HCM hbt h5
 go_wp2_with fail
 refine HRD.out.mono ?_
 rintro e w7 ⟨A7, c7, rfl, o7, f7, hP7, hN7, hT7, -⟩
 have HO7 := Lib.hid o7
 have HP7 := Lib.hid hP7
 have HW7 : Hid (Below w.heap.size w w7) := HW6.out.trans (hT7.below HW6.out.size (fun q hq => HF6.out q (.inl hq)))
 have hcv3 : (convert 40 40 (.slice (some ⟨w7.heap.size, 0, none⟩) 1 1)).run Tryz.prog (w7.alloc (.cells #[.int .u8 98] 5)) = .ok (.slice (some ⟨w7.heap.size, 0, none⟩) 1 1) (w7.alloc (oneB 98)) := conv_one w7 98
 have HB7 : Hid (Below w7.heap.size w7 (w7.alloc (oneB 98))) := (Below.refl _ _).alloc (Nat.le_refl _) _
 have HSM := Lib.hid (same_bv _ _ _ _ _ _ (w7.alloc (oneB 98)) (HO7.out.below_ HB7.out (Nat.le_refl _)).form_.bv_ (Bv.oneB_ w7 98 (by decide)))
 rw [decide_eq_true rfl] at HSM
 clear o7 hP7 hN7 hT7 HRD
 go_wp2_with fail
 refine HSM.out.mono ?_
 rintro e w8 ⟨rfl, b8⟩
 have hb8 : Below w7.heap.size w7 w8 := HB7.out.trans (b8.mono HB7.out.size)
 have HRO := Lib.hid (pproot_any (ppager_turned HP7.out (Turned.of_below hb8) ((ppager_lt HP7.out).off fun _ h => h)))
 have HW8 : Hid (Below w.heap.size w w8) := HW7.out.trans (hb8.mono HW7.out.size)
 clear b8 hb8 HSM hcv3
 go_wp2_with fail
 refine HRO.out.mono ?_
 rintro e w9 ⟨rfl, b9⟩
 have HW9 : Hid (Below w.heap.size w w9) := HW8.out.trans (b9.mono HW8.out.size)
 have hsq := HSQ.out
 obtain ⟨r6, hr6⟩ : ∃ r, s6.root = r := ⟨_, rfl⟩
 rw [hr6] at hsq ⊢
 obtain ⟨q0, q1, q2, q3, q4, q5, q6⟩ := r6
 simp only at hsq
 subst hsq
 clear b9 HRO
 unfold rtC
 have hfd := root_seq (.int .u64 2) (.int .i64 q1) (.int .i64 q2) (.int .u64 (q3 : Nat)) (.int .u64 (q4 : Nat)) (.int .i64 q5) (.int .i64 q6) w9
 go_wp2
 go_ret
 exact ⟨rfl, HW9.out⟩
end Go.Proofs.YtiafeniflkikeaaGreat
namespace Go.Proofs.YtiafeniflkikeaaGreat
open Go.RowKit
set_option linter.unusedVariables false
structure Pp.Tell (F : List Nat) (m : Pa.M) : Prop where
 ok : Pa.Ok ⟨m.root, Pa.backL m.l, F.length⟩
 page : ∀ x ∈ Pa.backL m.l, Pp.rdE F x.n = (x.kind, x.body, 0)
 less : ∀ x ∈ Pa.backL m.l, (x.n : Int) < m.root.pages
 told : Pp.told F = (m.root, 0)
theorem Pp.Tell.good {F : List Nat} {m : Pa.M} (h : Pp.Tell F m) {s0 : Pp.S} (hr : s0.root = m.root) : Pa.Good s0 m := ⟨hr, h.ok.rise, fun x hx => ⟨(h.ok.from2 x hx).1, h.less x hx⟩⟩
theorem Pa.read_mem {l : List Pa.Page} (hr : Pa.Rising l) {x : Pa.Page} (hx : x ∈ l) : Pa.read l x.n = (x.kind, x.body, 0) := by
 unfold Pa.read Pa.find
 cases hq : Pa.idx l x.n with
 | none =>
  exfalso
  unfold Pa.idx at hq
  rw [List.findIdx?_eq_none_iff] at hq
  simpa using hq x hx
 | some i =>
  obtain ⟨y, hy, hyn⟩ := Pa.idx_lt hq
  have hyl := List.mem_of_getElem? hy
  have e : y = x := by
   obtain ⟨j, hj⟩ := List.getElem?_of_mem hx
   have h1 := (List.getElem?_eq_some_iff.1 hy).1
   have h2 := (List.getElem?_eq_some_iff.1 hj).1
   have g1 := (List.getElem?_eq_some_iff.1 hy).2
   have g2 := (List.getElem?_eq_some_iff.1 hj).2
   have hp := List.pairwise_iff_getElem.1 hr
   rcases Nat.lt_trichotomy i j with h | h | h
   ·have := hp i j h1 h2 h; rw [g1, g2] at this; omega
   ·subst h; rw [hy] at hj; exact Option.some.inj hj
   ·have := hp j i h2 h1 h; rw [g1, g2] at this; omega
  rw [Option.bind_some, hy, e]
theorem Pp.Tell.read {F : List Nat} {m : Pa.M} (h : Pp.Tell F m) {s' : Pp.S} (hs : Pp.Is s' (Pa.back m)) {x : Pa.Page} (hx : x ∈ Pa.backL m.l) : Pp.readE s' F x.n = (x.kind, x.body, 0) := by
 have hg : Pp.Goes s' F ⟨m.root, Pa.backL m.l, F.length⟩ := ⟨hs.root, hs.l, h.ok, rfl, fun x hx _ => h.page x hx, fun x hx _ => h.less x hx, h.told⟩
 rw [Pp.find_bare hg]
 exact Pa.read_mem h.ok.rise hx
set_option maxHeartbeats 2000000 in
set_option maxRecDepth 100000 in
theorem ptold_any {w : World} {fd : Fp} {t : Sf.St} {bf : Nat} (hD : PDisk w fd t bf) (R : Nat → Prop) (v : Value) (m : Pa.M) (h : PaIs w R v m) (hR : ∀ k, R k → k < w.heap.size) (hl : m.l.length ≤ 1000000)
  (s0 : Pp.S) (ho : Pp.openE t ⟨#[105]⟩ 3 = (some s0, 0)) (hs0 : s0.l = []) (hn0 : s0.name = ⟨#[105]⟩) (kf : Nat) (F : List Nat) (hd : t.dead = false) (hg : Sf.get t ⟨#[105]⟩ = (kf, 0)) (hF : Sf.now (Sf.fileAt t kf) = F)
  (hT : s0.root ≠ m.root ∨ (s0.root = m.root ∧ Pp.Tell F m)) :
  Calls Tryz.prog 27 #[.pointer (some ⟨bf, 0, none⟩), v] w (IsBool (decide (s0.root = m.root)) w) := by
 have HT0 := Lib.hid (Pp.open_turns ho)
 have hv9 : ∃ D : Array Value, v = .agg D ∧ D.size = 9 := by obtain ⟨A, c, e, _⟩ := h; exact ⟨_, e, rfl⟩
 obtain ⟨D, rfl, hDs⟩ := hv9
 obtain ⟨W, hW⟩ : ∃ W, w.alloc (.cells D 37) = W := ⟨_, rfl⟩
 have HDT : Hid (Rw W w.heap.size 37 D) := by unfold Hid; rw [← hW]; exact Rw.new w _ _
 have hb : Below w.heap.size w W := by rw [← hW]; exact (Below.refl _ _).alloc (Nat.le_refl _) _
 have hWs : W.heap.size = w.heap.size + 1 := by rw [← hW]; simp
 have hsz := pa_size
 have HSD : Hid ((Tryz.prog.info? 37).map (·.size) = some D.size) := by unfold Hid; rw [hDs]; exact hsz
 have HAG := Lib.hid (pagain_gen (pdisk_law.below hD hb) R (.agg D) m 3 (h.below_ hb) (fun k hk => Nat.lt_of_lt_of_le (hR k hk) hb.size) hl (by unfold I64; omega) s0 ho hs0)
 have HB := Lib.hid hb
 have HWS := Lib.hid hWs
 have HDS := Lib.hid hDs
 have HRL := Lib.hid hR
 have HLW : Hid (fd.Lt w.heap.size) := pdisk_law.lt hD
 have HD := Lib.hid (pdisk_law.below hD hb)
 have HLT : Hid (fd.Lt W.heap.size) := pdisk_law.lt HD.out
 have HT := Lib.hid hT
 have HN0 := Lib.hid hn0
 have HFL : Hid (t.dead = false ∧ Sf.get t ⟨#[105]⟩ = (kf, 0) ∧ Sf.now (Sf.fileAt t kf) = F) := ⟨hd, hg, hF⟩
 have hFF : Sf.now (Sf.fileAt t (Sf.get t ⟨#[105]⟩).1) = F := by rw [hg]; exact hF
 have HFF := Lib.hid hFF
 have HLL : Hid ((Pa.backL m.l).length ≤ 1000000) := Nat.le_trans (Pa.backL_le _) hl
 clear h hR hl ho hs0 hn0 hd hg hF hT hD hb hDs hsz hFF hWs
 obtain ⟨q, hq⟩ : ∃ q, decide (s0.root = m.root) = q := ⟨_, rfl⟩
 rw [hq]
 have HQ := Lib.hid hq
 clear hq
 go_enter Tryz.func27, Tryz.ntmps27
 go_wp2_with ((with_reducible refine gate_load 37 ?_); refine wpList_load_row rfl 37 _ rfl w.heap.size rfl 37 D (0, 0) _ HDT.out Tryz.underlying37 rfl HSD.out ?_)
 refine HAG.out.mono ?_
 rintro e w1 ⟨v1, n, hv1, hn1, hn2, b1, hcase⟩
 obtain ⟨A, c, rfl, hf, hs, hp⟩ := hv1
 have hcs := paC_size (Pa.back m).root A (Pa.back m).l.length c (Pa.back m).size
 have hco := paC_one (Pa.back m).root A (Pa.back m).l.length c (Pa.back m).size
 have hrt : ∀ j, j < 7 → (paC (Pa.back m).root A (Pa.back m).l.length c (Pa.back m).size)[j]? = (rtC m.root).toList[j]? := fun j hj => by
  have hi : j = 0 ∨ j = 1 ∨ j = 2 ∨ j = 3 ∨ j = 4 ∨ j = 5 ∨ j = 6 := by omega
  rcases hi with rfl | rfl | rfl | rfl | rfl | rfl | rfl <;> rfl
 have hc7 : (paC (Pa.back m).root A (Pa.back m).l.length c (Pa.back m).size)[7]? = some (.slice A (Pa.backL m.l).length c) := rfl
 have hp : Pgs w1 (fun q => R q ∨ (W.heap.size ≤ q ∧ q < n)) (.slice A (Pa.backL m.l).length c) (Pa.backL m.l) := hp
 obtain ⟨C, hC⟩ : ∃ C, paC (Pa.back m).root A (Pa.back m).l.length c (Pa.back m).size = C := ⟨_, rfl⟩
 obtain ⟨l, hl⟩ : ∃ l, Pa.backL m.l = l := ⟨_, rfl⟩
 have HL := Lib.hid hl
 rw [hC] at hcs hco hrt hc7 hcase
 rw [hl] at hc7 hp
 have HSC : Hid ((Tryz.prog.info? 37).map (·.size) = some C.size) := by unfold Hid; rw [hcs]; exact pa_size
 have HDC : Hid (D.size = C.size) := by unfold Hid; rw [HDS.out, hcs]
 have HCO := Lib.hid hco
 have HD1 : Hid (Rw w1 w.heap.size 37 D) := HDT.out.below b1 HDT.out.lt
 obtain ⟨Y, hY⟩ : ∃ Y, w1.setRow w.heap.size C = Y := ⟨_, rfl⟩
 have hYR : Rw Y w.heap.size 37 C := by rw [← hY]; exact HD1.out.row C
 have hYB : Below w.heap.size w Y := by rw [← hY]; exact below_setRow (HB.out.trans (b1.mono HB.out.size)) (Nat.le_refl _) _
 have hYT : Turned (fun q => q = w.heap.size) w1 Y := by rw [← hY]; exact (Turned.refl (fun q => q = w.heap.size) w1).setRow (fun _ => rfl) _
 have hYs : Y.heap.size = w1.heap.size := by rw [← hY]; simp
 have HYR := Lib.hid hYR
 have HYB := Lib.hid hYB
 have HYS := Lib.hid hYs
 have HN := Lib.hid (And.intro hn1 hn2)
 rcases hcase with ⟨hng, rfl⟩ | ⟨b, f1, s1, rfl, hP1, hr1, hnm1, hc1, his, hf1⟩
 ·have hne : s0.root ≠ m.root := by
   rcases HT.out with h | ⟨h, h'⟩
   ·exact h
   ·exact absurd (h'.good h) hng
  have hqf : q = false := by rw [← HQ.out]; exact decide_eq_false hne
  subst hqf
  clear hp hf hs hcs hco hrt hc7 hC hl hYR hYB hYT hYs b1 hn1 hn2 hng hne HAG
  go_wp2_with ((with_reducible refine gate_store 37 ?_); refine wpList_store_row rfl 37 _ _ rfl w.heap.size C rfl rfl 37 D HD1.out HSC.out HDC.out HCO.out ?_; rw [hY])
  clear hY
  refine wp_region_held_drew (S := fun _ => True) (by kernel_rfl) trivial (fun hH => ?_)
  refine zH (i := 0) (v := ?_) rfl (by kernel_rfl) (fun _ _ _ h => h) (Or.inl ⟨by rfl, (by intro w' hSw; go_simp; first | done | with_reducible rfl)⟩) hH ?_
  try simp only [Act.put, zA, zC, zD, zE, zF]
  refine zH (i := 1) (v := ?_) rfl (by kernel_rfl) (fun _ _ _ h => h) (Or.inl ⟨by rfl, (by intro w' hSw; go_simp; first | done | with_reducible rfl)⟩) hH ?_
  try simp only [Act.put, zA, zB, zC, zD, zE, zF]
  refine zH (i := 2) (v := ?_) rfl (by kernel_rfl) (fun _ _ _ h => h) (Or.inl ⟨by rfl, (by intro w' hSw; go_simp; first | done | with_reducible rfl)⟩) hH ?_
  try simp only [Act.put, zA, zB, zC, zD, zE, zF]
  refine zH (i := 3) (v := undef) rfl (by kernel_rfl) (fun _ _ _ h => h) (Or.inr ⟨by rfl, rfl⟩) hH ?_
  try simp only [Act.put, zA, zB, zC, zD, zE, zF]
  refine zH (i := 4) (v := undef) rfl (by kernel_rfl) (fun _ _ _ h => h) (Or.inr ⟨by rfl, rfl⟩) hH ?_
  try simp only [Act.put, zA, zB, zC, zD, zE, zF]
  refine zH (i := 5) (v := undef) rfl (by kernel_rfl) (fun _ _ _ h => h) (Or.inr ⟨by rfl, rfl⟩) hH ?_
  try simp only [Act.put, zA, zB, zC, zD, zE, zF]
  refine zH (i := 6) (v := undef) rfl (by kernel_rfl) (fun _ _ _ h => h) (Or.inr ⟨by rfl, rfl⟩) hH ?_
  try simp only [Act.put, zA, zB, zC, zD, zE, zF]
  refine zH (i := 7) (v := undef) rfl (by kernel_rfl) (fun _ _ _ h => h) (Or.inr ⟨by rfl, rfl⟩) hH ?_
  try simp only [Act.put, zA, zB, zC, zD, zE, zF]
  refine zH (i := 8) (v := ?_) rfl (by kernel_rfl) (fun _ _ _ h => h) (Or.inl ⟨by rfl, (by intro w' hSw; go_simp; first | done | with_reducible rfl)⟩) hH ?_
  try simp only [Act.put, zA, zB, zC, zD, zE, zF]
  refine wpAnyH_done (by kernel_rfl) ?_ _
  clear hH
  have HZB := Lib.hid HYB.out.drew
  go_wp2
  go_ret
  exact ⟨rfl, HZB.out⟩
 rw [HFF.out] at hP1
 have hW2 := HWS.out
 have hP1Y : PPager Y f1 s1 F b bf := ppager_turned hP1 hYT (fun q hq => ⟨fun hm => by have := hf1 q (.inl hm); omega, fun hm => by have := hf1 q (.inr hm); omega⟩)
 have hpY : Pgs Y (fun q => R q ∨ (W.heap.size ≤ q ∧ q < n)) (.slice A l.length c) l := hp.turned_ hYT (fun q hq hf => by
  rcases hq with hq | hq
  ·have := HRL.out q hq; omega
  ·omega)
 have hDY : PDisk Y fd t bf := pdisk_law.turned (pdisk_law.below HD.out b1) hYT (fun q hq => by
  subst hq
  have hlt := HLW.out
  exact ⟨fun hm => by have := hlt _ (.inl hm); omega, fun hm => by have := hlt _ (.inr hm); omega⟩)
 have HPY := Lib.hid hpY
 have HP1 := Lib.hid hP1Y
 have HDY := Lib.hid hDY
 have HF1 := Lib.hid hf1
 have HIS := Lib.hid his
 have HN1 : Hid (s1.name = ⟨#[105]⟩ ∧ s1.turns = 0) := ⟨hnm1.trans HN0.out, hc1.2.trans HT0.out⟩
 obtain ⟨E, hE⟩ : ∃ D, rtC m.root = D := ⟨_, rfl⟩
 have HRG : Hid (∀ w', Below Y.heap.size Y w' → w'.rangeAt w.heap.size 0 E.toList) := fun w' hb' => by
  have hr := HYR.out.below hb' HYR.out.lt
  intro j u hj
  rw [hr.cell, Nat.zero_add]
  have hj7 : j < 7 := by rw [← hE] at hj; have := (List.getElem?_eq_some_iff.1 hj).1; exact this
  rw [hrt j hj7, hE]
  exact hj
 have HSE : Hid ((Tryz.prog.info? 34).map (·.size) = some E.size) := by unfold Hid; rw [← hE, rtC_size]; exact rt_size
 have HC7 := Lib.hid hc7
 have heq : ∀ w, (Op.equalIn 10000 34 (.agg (rtC s1.root)) (.agg E)).run Tryz.prog w = .ok (decide (s0.root = m.root)) w := fun w => by
  rw [← hE, hr1]; exact rt_equalIn s0.root m.root w
 obtain ⟨G, hG⟩ : ∃ D, rtC s1.root = D := ⟨_, rfl⟩
 rw [hG] at heq
 have HGE := Lib.hid hG
 rw [HQ.out] at heq
 have HR1 := Lib.hid hr1
 clear hp hf hs hcs hco hrt hc7 hC hl hYR hYB hYT hYs b1 hn1 hn2 hP1 hP1Y hpY hDY hf1 his hnm1 hc1 hE hG hr1 HAG HDT hW2
 go_wp2_with ((with_reducible refine gate_store 37 ?_); refine wpList_store_row rfl 37 _ _ rfl w.heap.size C rfl rfl 37 D HD1.out HSC.out HDC.out HCO.out ?_; rw [hY])
 clear hY
 have hS0 : Below Y.heap.size Y Y.drew := (Below.refl _ _).drew
 refine wp_region_held_drew (S := fun w' => Below Y.heap.size Y w') (by kernel_rfl) hS0 (fun hH => ?_)
 refine zH (i := 0) (v := ?_) rfl (by kernel_rfl) (fun _ _ _ h => h) (Or.inl ⟨by rfl, (by intro w' hSw; go_simp; first | done | with_reducible rfl)⟩) hH ?_
 try simp only [Act.put, zA, zC, zD, zE, zF]
 refine zH (i := 1) (v := ?_) rfl (by kernel_rfl) (fun _ _ _ h => h) (Or.inl ⟨by rfl, (by intro w' hSw; go_simp; first | done | with_reducible rfl)⟩) hH ?_
 try simp only [Act.put, zA, zB, zC, zD, zE, zF]
 refine zH (i := 2) (v := ?_) rfl (by kernel_rfl) (fun _ _ _ h => h) (Or.inl ⟨by rfl, (by intro w' hSw; go_simp; first | done | with_reducible rfl)⟩) hH ?_
 try simp only [Act.put, zA, zB, zC, zD, zE, zF]
 refine zH (i := 3) (v := ?_) rfl (by kernel_rfl) (fun _ _ _ h => h) (Or.inl ⟨by rfl, (by intro w' hSw; go_simp; first | done | with_reducible rfl)⟩) hH ?_
 try simp only [Act.put, zA, zB, zC, zD, zE, zF]
 refine zH (i := 5) (v := ?_) rfl (by kernel_rfl) (fun _ _ _ h => h) (Or.inl ⟨by rfl, (by intro w' hSw; go_simp; first | done | with_reducible rfl)⟩) hH ?_
 try simp only [Act.put, zA, zB, zC, zD, zE, zF]
 refine zH (i := 6) (v := .agg E) rfl (by kernel_rfl) (fun _ _ _ h => h) (Or.inl ⟨by rfl, fun w' hSw => exec_load_mid _ _ rfl w.heap.size 0 rfl E _ w' (HRG.out w' hSw) Tryz.underlying34 rfl HSE.out⟩) hH ?_
 try simp only [Act.put, zA, zB, zC, zD, zE, zF]
 refine wpAnyH_ready (rs := [4]) (by kernel_rfl) (by simp) ?_
 refine AllReadyH.cons rfl (fun K hK => ?_) AllReadyH.nil
 go_simp
 refine (pproot_any (ppager_turned HP1.out (Turned.of_below hS0) ((ppager_lt HP1.out).off fun _ h => h))).mono ?_
 rintro e w2 ⟨rfl, b2⟩
 have hS1 : Below Y.heap.size Y w2 := hS0.trans (b2.mono hS0.size)
 refine hK.out _ _ hS1 (fun hH => ?_)
 rw [HGE.out]
 clear hK K hS0 b2
 try simp only [Act.put, zA, zB, zC, zD, zE, zF]
 refine zH (i := 7) (v := ?_) rfl (by kernel_rfl) (fun _ _ _ h => h) (Or.inl ⟨by rfl, (by intro w' hSw; go_simp; first | done | with_reducible rfl)⟩) hH ?_
 try simp only [Act.put, zA, zB, zC, zD, zE, zF]
 refine zH (i := 8) (v := ?_) rfl (by kernel_rfl) (fun _ _ _ h => h) (Or.inl ⟨by rfl, (by intro w' hSw; go_simp; first | done | with_reducible rfl)⟩) hH ?_
 try simp only [Act.put, zA, zB, zC, zD, zE, zF]
 refine wpAnyH_done (by kernel_rfl) ?_ _
 clear hH heq
 have HS1 := Lib.hid hS1
 have HB2 : Hid (Below w.heap.size w w2) := HYB.out.trans (hS1.mono HYB.out.size)
 clear hS1
 cases q with
 | false =>
  go_wp2
  go_ret
  exact ⟨rfl, HB2.out⟩
 | true =>
  simp only [Bool.not_true]
  have hroot : s0.root = m.root := of_decide_eq_true HQ.out
  have HTL : Hid (Pp.Tell F m) := by
   rcases HT.out with h | ⟨_, h⟩
   ·exact absurd hroot h
   ·exact h
  have HIS2 : Hid (Pp.Is s1 (Pa.back m)) := HIS.out (HTL.out.good hroot)
  have hn2 : n ≤ w2.heap.size := Nat.le_trans HN.out.2 (by have := HS1.out.size; have := HYS.out; omega)
  have HNW := Lib.hid hn2
  have HPG : Hid (∀ w', Below n Y w' → Pgs w' (fun q => R q ∨ (W.heap.size ≤ q ∧ q < n)) (.slice A l.length c) l) := fun w' hb' => HPY.out.turned_ (Turned.of_below hb') (fun q hq hf => by
   rcases hq with hq | hq
   ·have h1 := HRL.out q hq; have h2 := HN.out.1; have h3 := HWS.out; omega
   ·omega)
  have HBX : Hid (∀ w', Below n Y w' → Rw w' w.heap.size 37 C) := fun w' hb' => HYR.out.below hb' (by have h2 := HN.out.1; have h3 := HWS.out; omega)
  have HDK : Hid (∀ w', Below n Y w' → PDisk w' fd t bf) := fun w' hb' => pdisk_law.turned HDY.out (Turned.of_below hb') (HLT.out.off fun q hq => Nat.le_trans HN.out.1 hq)
  have HY2 : Hid (Below n Y w2) := HS1.out.mono (by have := HN.out.2; have := HYS.out; omega)
  have HP2 : Hid (PPager w2 f1 s1 F b bf) := ppager_turned HP1.out (Turned.of_below HS1.out) ((ppager_lt HP1.out).off fun _ h => h)
  have HLC : Hid (l.length ≤ 1000000) := by unfold Hid; rw [← HL.out]; exact HLL.out
  clear hn2 hroot HPY HDY HP1 HYR HIS HT HQ HS1
  go_wp2
  go_loopw [7] (fun i wr => ∃ (k : Nat) (fk : Fp), k ≤ l.length ∧ i = .int .i64 (k : Nat) ∧ Hid (PPager wr fk { s1 with turns := s1.turns + k } F b bf) ∧ Hid (fk.From n) ∧ Hid (Below n Y wr) ∧ Hid (n ≤ wr.heap.size)) (fun i _ => l.length - (intOf i).toNat)
  case atStart => exact ⟨0, f1, by omega, rfl, HP2.out, HF1.out, HY2.out, HNW.out⟩
  case round =>
   obtain ⟨k, fk, hk, rfl, HPk, HFk, HBk, HNk⟩ := hrel
   have c7 : wr.cell? ⟨w.heap.size, 7, none⟩ = some (.slice A l.length c) := ((HBX.out wr HBk.out).cell 7).trans HC7.out
   have hlc : l.length ≤ 9223372036854775807 := by have := HLC.out; omega
   have wk : IntKind.i64.wrap ((k : Int) + 1) = (k : Int) + 1 := by rw [IntKind.wrap_i64]; have := HLC.out; omega
   have HBW : Hid (Below w.heap.size w wr) := HYB.out.trans (HBk.out.mono (by have h2 := HN.out.1; have h3 := HWS.out; omega))
   by_cases hlt : k < l.length
   rotate_left
   ·have h0 : ¬ (k : Int) < (l.length : Int) := by omega
    clear hk wk
    go_wp2
    go_ret
    exact ⟨rfl, HBW.out⟩
   have j1 : (k : Int) < (l.length : Int) := by omega
   have j0 : (0 : Int) ≤ (k : Int) := by omega
   obtain ⟨pb, off, x, y, hA, hbl, hRb, hxo, hq, hof, hm⟩ := (HPG.out wr HBk.out).at_ hlt
   subst hA
   have hpn : pb < n := by
    rcases hRb with h | h
    ·have h1 := HRL.out pb h; have h2 := HN.out.1; have h3 := HWS.out; omega
    ·exact h.2
   have HM : Hid (∀ w', Below n Y w' → w'.cell? ⟨pb, off + k * 4, none⟩ = some (.int .i64 (x.n : Nat)) ∧ w'.cell? ⟨pb, off + k * 4 + 2, none⟩ = some (.int .u8 (x.kind : Nat)) ∧ w'.cell? ⟨pb, off + k * 4 + 3, none⟩ = some (.slice x.A x.m x.c)) := fun w' hb' => by
    have h1 := fun j => hb'.cell (p := ⟨pb, off + k * 4 + j, none⟩) hpn
    have h2 := fun j => HBk.out.cell (p := ⟨pb, off + k * 4 + j, none⟩) hpn
    exact ⟨(h1 0).trans ((h2 0).symm.trans (hm 0 _ rfl)), (h1 2).trans ((h2 2).symm.trans (hm 2 _ rfl)), (h1 3).trans ((h2 3).symm.trans (hm 3 _ rfl))⟩
   have e0 := (HM.out wr HBk.out).1
   have hmem : y ∈ Pa.backL m.l := by rw [HL.out]; exact List.mem_of_getElem? hq
   have hread : Pp.readE { s1 with turns := s1.turns + k } F y.n = (y.kind, y.body, 0) := HTL.out.read HIS2.out hmem
   rw [hof.1] at hread
   have HRD := Lib.hid (ppread_any (x.n : Int) kf HPk.out (HDK.out wr HBk.out) (by have := hxo.1; unfold I64; omega) HFL.out.1 (by show Sf.get t s1.name = _; rw [HN1.out.1]; exact HFL.out.2.1) HFL.out.2.2 (by have h1 := HLC.out; have h2 := HN1.out.2; show s1.turns + k ≤ _; omega))
   rw [hread] at HRD
   have HBD := Lib.hid hof.2.2.2
   have hkd : y.kind = x.kind := hof.2.2.1
   have hqk : (((y.kind : Nat) : Int) != ((x.kind : Nat) : Int)) = false := by rw [hkd]; simp
   have HBY : Hid (∀ w', Below n Y w' → Lv yK w' w'.heap.size (.slice x.A x.m x.c) y.body) := fun w' hb' => by
    obtain ⟨_, _, x', y', hA', _, _, _, hq', hof', hm'⟩ := (HPG.out w' hb').at_ hlt
    injection hA' with hA'
    injection hA' with e1 e2
    subst e1 e2
    rw [hq] at hq'
    obtain rfl := Option.some.inj hq'
    have h3 := (HM.out w' hb').2.2
    have h4 := hm' 3 (.slice x'.A x'.m x'.c) rfl
    rw [h3] at h4
    have h5 := Option.some.inj h4
    rw [h5]
    exact hof'.2.2.2.1
   have hxm : ∃ n', x.m = n' := ⟨_, rfl⟩
   clear hm hof hxo hRb hbl hread hmem hpn hq hkd hxm
   go_wp2_with fail
   refine HRD.out.mono ?_
   rintro e w4 ⟨A4, c4, rfl, o4, f4, hP4, hN4, hT4, -⟩
   have hb4 : Below n wr w4 := hT4.below HNk.out (fun q hq => HFk.out q (.inl hq))
   have HB4 : Hid (Below n Y w4) := HBk.out.trans hb4
   have HN4 : Hid (n ≤ w4.heap.size) := Nat.le_trans HNk.out hb4.size
   have HF4 := Lib.hid (hN4.from_ HFk.out HNk.out)
   have HP4 := Lib.hid hP4
   have c74 : w4.cell? ⟨w.heap.size, 7, none⟩ = some (.slice (some ⟨pb, off, none⟩) l.length c) := ((HBX.out w4 HB4.out).cell 7).trans HC7.out
   obtain ⟨e1, e2, e3⟩ := HM.out w4 HB4.out
   have HSM := Lib.hid (same_bv _ _ _ _ _ _ w4 o4.form_.bv_ ((HBY.out w4 HB4.out).bv_))
   rw [decide_eq_true rfl] at HSM
   clear hP4 hN4 hT4 hb4 HRD o4 e0 c7
   go_wp2_with fail
   refine HSM.out.mono ?_
   rintro e w5 ⟨rfl, b5⟩
   have HB5 : Hid (Below n Y w5) := HB4.out.trans (b5.mono HN4.out)
   have HN5 : Hid (n ≤ w5.heap.size) := Nat.le_trans HN4.out b5.size
   have HP5 : Hid (PPager w5 f4 { s1 with turns := s1.turns + (k + 1) } F b bf) := ppager_turned HP4.out (Turned.of_below b5) ((ppager_lt HP4.out).off fun _ h => h)
   clear b5 HSM
   go_wp2
   go_roundw
   case rel => exact ⟨k + 1, f4, by omega, by go_num, HP5.out, HF4.out, HB5.out, HN5.out⟩
   case measure => simp [intOf]; omega
end Go.Proofs.YtiafeniflkikeaaGreat
namespace Go.Proofs.YtiafeniflkikeaaGreat
open Go.RowKit
set_option linter.unusedVariables false
namespace Pa
theorem filter_add (l : List Page) (kd : Nat) (b : List Nat) : (addL l kd b).filter (fun x => decide (x.state ≠ 2)) = l.filter (fun x => decide (x.state ≠ 2)) := by
 unfold addL
 rw [List.filter_append, List.filter_cons_of_neg (by simp), ← List.filter_append, List.take_append_drop]
theorem filter_drop {α : Type} {l : List Page} {i : Nat} {x : Page} (hx : l[i]? = some x) (g : Page → α) (hg : g { x with state := 3 } = g x) :
  ((dropL l i x).filter (fun x => decide (x.state ≠ 2))).map g = (l.filter (fun x => decide (x.state ≠ 2))).map g := by
 have hi := (List.getElem?_eq_some_iff.1 hx).1
 have hl : l = l.take i ++ x :: l.drop (i + 1) := by
  conv => lhs; rw [← List.take_append_drop i l, List.drop_eq_getElem_cons hi]
  rw [(List.getElem?_eq_some_iff.1 hx).2]
 unfold dropL
 split
 ·rename_i h2
  conv => rhs; rw [hl]
  rw [List.filter_append, List.filter_append, List.filter_cons_of_neg (by simp [h2])]
 ·rename_i h2
  rw [List.set_eq_take_append_cons_drop, if_pos hi]
  conv => rhs; rw [hl]
  rw [List.filter_append, List.filter_append, List.filter_cons_of_pos (by simp), List.filter_cons_of_pos (by simpa using h2)]
  simp only [List.map_append, List.map_cons, hg]
theorem add_root (m : M) (kd : Nat) (b : List Nat) : (add m kd b).1.root = m.root := by
 unfold add
 split
 ·rfl
 ·split <;> rfl
theorem drop_root (m : M) (n : Int) : (drop m n).1.root = m.root := by
 unfold drop
 split
 ·rfl
 ·split
  ·rfl
  ·split <;> rfl
theorem add_back {α : Type} (g : Page → α) (m : M) (kd : Nat) (b : List Nat) : ((add m kd b).1.l.filter (fun x => decide (x.state ≠ 2))).map g = (m.l.filter (fun x => decide (x.state ≠ 2))).map g := by
 unfold add
 split
 ·rfl
 ·split
  ·rfl
  ·simp only [filter_add]
theorem drop_back {α : Type} (g : Page → α) (hg : ∀ x, g { x with state := 3 } = g x) (m : M) (n : Int) : ((drop m n).1.l.filter (fun x => decide (x.state ≠ 2))).map g = (m.l.filter (fun x => decide (x.state ≠ 2))).map g := by
 unfold drop
 split
 ·rfl
 ·split
  ·rfl
  ·rename_i i hi x hx
   split
   ·rfl
   ·exact filter_drop hx g (hg x)
end Pa
namespace Pp
theorem Goes.file {s : S} {F : List Nat} {m : Pa.M} (h : Goes s F m) {x : Pa.Page} (hx : x ∈ m.l) (h2 : x.state ≠ 2) : ∃ y ∈ s.l, y.n = x.n ∧ y.state ≠ 2 := by
 obtain ⟨y, hy, e⟩ := mem_bare h.l hx
 refine ⟨y, hy, ?_, ?_⟩
 ·have := congrArg Pa.Page.n e; rwa [bare_n, bare_n] at this
 ·have := congrArg Pa.Page.state e; rw [bare_state, bare_state] at this; rw [this]; exact h2
theorem Goes.tell {s : S} {F : List Nat} {m : Pa.M} (h : Goes s F m) {sure : Pa.M} (hr : sure.root = m.root) (hb : Pa.backL sure.l = Pa.backL m.l) {x : List Nat} (ht : Tells x s.root (held s.l F)) : Tell x sure := by
 have hg := h.back
 have hmem : ∀ y ∈ Pa.backL m.l, ∃ z ∈ m.l, z.state ≠ 2 ∧ y = Pa.used z := fun y hy => by
  obtain ⟨z, hz, rfl⟩ := List.mem_map.1 hy
  have h1 := List.mem_filter.1 hz
  exact ⟨z, h1.1, by simpa using h1.2, rfl⟩
 refine ⟨⟨by rw [hr]; exact h.ok.root, by show Pa.Rising (Pa.backL sure.l); rw [hb]; exact hg.ok.rise, fun y hy => ?_⟩, fun y hy => ?_, fun y hy => ?_, by rw [hr, ← h.root]; exact ht.2.1⟩
 ·have hy : y ∈ Pa.backL sure.l := hy
  rw [hb] at hy
  exact hg.ok.from2 y hy
 ·rw [hb] at hy
  obtain ⟨z, hz, h2, rfl⟩ := hmem y hy
  obtain ⟨u, hu, hn, hs⟩ := h.file hz h2
  have hh := ht.2.2 (u.n, pageOf F u.n) (List.mem_map.2 ⟨u, List.mem_filter.2 ⟨hu, by simpa using hs⟩, rfl⟩)
  rw [hn] at hh
  have hp := h.page z hz h2
  have h3 := rdE_ok hp
  show rdE x z.n = (z.kind, z.body, 0)
  exact rdE_of hh.1 (by rw [hh.2]; exact h3.2)
 ·rw [hb] at hy
  obtain ⟨z, hz, h2, rfl⟩ := hmem y hy
  rw [hr]
  exact h.less z hz h2
structure Fine (s : S) (F : List Nat) (t : Sf.St) (k : Nat) (sure m : Pa.M) (j : Nat) : Prop where
 goes : Goes s F m
 root : sure.root = m.root
 back : Pa.backL sure.l = Pa.backL m.l
 dur : ∀ x, Vers (Sf.fileAt t k) x → Tells x s.root (held s.l F)
 file : Sf.now (Sf.fileAt t k) = F
 dead : t.dead = false
 few : ∀ x ∈ m.l, x.n < 2 + j
 big : 1024 ≤ F.length
 len : F.length ≤ 1024 + 512 * j
 seen : t.seen = [(s.name, k)]
 sur : Sf.find t.sure s.name = some k
 row : t.row = []
 room : t.room = 524288
 turns : s.turns ≤ 200000 * j
structure Ends (t : Sf.St) (name : ByteArray) (k : Nat) (sure under : Pa.M) : Prop where
 sur : Sf.find t.sure name = some k
 row : t.row = []
 all : ∀ x, Vers (Sf.fileAt t k) x → 1024 ≤ x.length ∧ (Tell x sure ∨ (Tell x under ∧ under.root ≠ sure.root))
section
variable {s : S} {F : List Nat} {t : Sf.St} {k j : Nat} {sure m : Pa.M}
theorem Fine.get (h : Fine s F t k sure m j) : Sf.get t s.name = (k, 0) := by
 unfold Sf.get
 rw [if_neg (by rw [h.dead]; simp), h.seen]
 simp [Sf.find]
theorem Fine.used (h : Fine s F t k sure m j) : Sf.used t = F.length := by
 unfold Sf.used
 rw [if_neg (by rw [h.dead]; simp), h.seen]
 simp [Sf.lens, Sf.len, h.file]
theorem Fine.ends (h : Fine s F t k sure m j) (under : Pa.M) : Ends t s.name k sure under :=
 ⟨h.sur, h.row, fun x hx => ⟨(h.dur x hx).1, .inl (h.goes.tell h.root h.back (h.dur x hx))⟩⟩
theorem Fine.more (h : Fine s F t k sure m j) : Fine s F t k sure m (j + 1) :=
 ⟨h.goes, h.root, h.back, h.dur, h.file, h.dead, fun x hx => by have := h.few x hx; omega, h.big, by have := h.len; omega, h.seen, h.sur, h.row, h.room, by have := h.turns; show s.turns ≤ _; omega⟩
theorem Fine.add (h : Fine s F t k sure m j) {kd : Nat} {b : List Nat} (hk : kd < 256) (hb : ∀ y ∈ b, y < 256) : Fine { s with l := (Pa.add (asM s F) kd b).1.l } F t k sure (Pa.add m kd b).1 (j + 1) := by
 have hh : held (Pa.add (asM s F) kd b).1.l F = held s.l F := Pa.add_back (fun x : Pa.Page => (x.n, pageOf F x.n)) (asM s F) kd b
 have hbk : Pa.backL (Pa.add m kd b).1.l = Pa.backL m.l := Pa.add_back Pa.used m kd b
 refine ⟨(h.goes.add hk hb).2, by rw [Pa.add_root]; exact h.root, by rw [hbk]; exact h.back, fun x hx => by show Tells x s.root (held (Pa.add (asM s F) kd b).1.l F); rw [hh]; exact h.dur x hx, h.file, h.dead, fun x hx => ?_, h.big, by have := h.len; omega, h.seen, h.sur, h.row, h.room, by have := h.turns; show s.turns ≤ _; omega⟩
 have hle : Pa.gap m.l 2 ≤ j := by
  have h1 := Pa.gap_le m.l 2
  have h2 := Pa.rising_len (lo := 2) (hi := 2 + j) h.goes.ok.rise (fun x hx => ⟨(h.goes.ok.from2 x hx).1, h.few x hx⟩)
  omega
 unfold Pa.add at hx
 split at hx
 ·have := h.few x hx; omega
 ·split at hx
  ·have := h.few x hx; omega
  ·rcases mem_add hx with h1 | rfl
   ·have := h.few x h1; omega
   ·show 2 + Pa.gap m.l 2 < 2 + (j + 1); omega
theorem Fine.drop (h : Fine s F t k sure m j) (n : Int) : Fine { s with l := (Pa.drop (asM s F) n).1.l } F t k sure (Pa.drop m n).1 (j + 1) := by
 have hh : held (Pa.drop (asM s F) n).1.l F = held s.l F := Pa.drop_back (fun x : Pa.Page => (x.n, pageOf F x.n)) (fun _ => rfl) (asM s F) n
 have hbk : Pa.backL (Pa.drop m n).1.l = Pa.backL m.l := Pa.drop_back Pa.used (fun _ => rfl) m n
 refine ⟨(h.goes.drop n).2, by rw [Pa.drop_root]; exact h.root, by rw [hbk]; exact h.back, fun x hx => by show Tells x s.root (held (Pa.drop (asM s F) n).1.l F); rw [hh]; exact h.dur x hx, h.file, h.dead, fun x hx => ?_, h.big, by have := h.len; omega, h.seen, h.sur, h.row, h.room, by have := h.turns; show s.turns ≤ _; omega⟩
 unfold Pa.drop at hx
 split at hx
 ·have := h.few x hx; omega
 ·split at hx
  ·have := h.few x hx; omega
  ·rename_i i hi y hy
   split at hx
   ·have := h.few x hx; omega
   ·rcases mem_drop hy hx with h1 | ⟨_, rfl⟩
    ·have := h.few x h1; omega
    ·have := h.few y (List.mem_of_getElem? hy); show y.n < _; omega
theorem sizeL_bound {n : Nat} : ∀ (l : List Pa.Page) (s : Nat), s ≤ n → (∀ x ∈ l, (x.n + 1) * 512 ≤ n) → Pa.sizeL s l ≤ n
 | [], s, h, _ => h
 | x :: l, s, h, hx => by
  show Pa.sizeL (if x.state = 2 then max s ((x.n + 1) * 512) else s) l ≤ n
  refine sizeL_bound l _ ?_ (fun y hy => hx y (List.mem_cons_of_mem _ hy))
  have := hx x (List.mem_cons_self ..)
  split <;> omega
theorem commit_free {m : Pa.M} {r : Rt.Root} {f1 f2 : Int} (h : (Pa.commit m r f1).2 = 0) (h2 : (Pa.sizeL m.size m.l : Int) - m.size ≤ f2) : (Pa.commit m r f2).2 = 0 ∧ (Pa.commit m r f2).1 = (Pa.commit m r f1).1 := by
 have e0 : ∀ f, Pa.commit m r f = if Pa.there m.l r.page = false ∨ ¬ Rt.May (Pa.rootOf m r) then (m, 2) else if f < (Pa.sizeL m.size m.l : Int) - m.size then (m, 9) else (⟨Pa.rootOf m r, (Pa.keep m.l).map Pa.used, Pa.sizeL m.size m.l⟩, 0) := fun _ => rfl
 rw [e0] at h
 split at h
 ·simp at h
 ·rename_i h1
  split at h
  ·simp at h
  ·rename_i h3
   rw [e0, e0, if_neg h1, if_neg h1, if_neg h3, if_neg (by omega)]
   exact ⟨rfl, rfl⟩
theorem back_kept (l : List Pa.Page) : Pa.backL ((Pa.keep l).map Pa.used) = (Pa.keep l).map Pa.used := by
 unfold Pa.backL
 have e : ((Pa.keep l).map Pa.used).filter (fun x => decide (x.state ≠ 2)) = (Pa.keep l).map Pa.used := List.filter_eq_self.2 (fun x hx => by
  obtain ⟨y, _, rfl⟩ := List.mem_map.1 hx
  simp [Pa.used])
 rw [e, List.map_map]
 rfl
theorem Fine.commit (h : Fine s F t k sure m j) (hj : j ≤ 30) {r : Rt.Root} (hc : (Pa.commit m r 524288).2 = 0) {x : Nat} {s' : S} {F' : List Nat} {t' : Sf.St} (hcom : Com s F t k r x s' F' t') :
  (t'.dead = false ∧ x = 0 ∧ Fine s' F' t' k (Pa.commit m r 524288).1 (Pa.commit m r 524288).1 (j + 1) ∧ s'.name = s.name ∧ t'.acts ≤ t.acts + 200000) ∨
  (t'.dead = true ∧ x ≠ 0 ∧ Ends t' s.name k sure (Pa.commit m r 524288).1 ∧ t'.acts ≤ t.acts + 200000) := by
 have hfew : ∀ y ∈ m.l, (y.n + 1) * 512 ≤ 1024 + 512 * j := fun y hy => by have := h.few y hy; omega
 have hsz : Pa.sizeL m.size m.l ≤ 1024 + 512 * j := sizeL_bound m.l _ (by rw [h.goes.size]; exact h.len) hfew
 have hfree : (Pa.sizeL m.size m.l : Int) - m.size ≤ (t.room : Int) - Sf.used t := by
  have h1 := h.goes.size
  rw [h.used, h.room]
  have := h.len
  omega
 obtain ⟨hc2, hq⟩ := commit_free hc hfree
 obtain ⟨he1, he2⟩ := commit_eq h.goes r ((t.room : Int) - Sf.used t)
 obtain ⟨hmay, hqe⟩ := commit_ok hc
 rw [hc2] at he1
 have hseq : (Pa.rootOf m r).seq = m.root.seq + 1 := by
  show (m.root.seq + 1) % 18446744073709551616 = _
  have := h.goes.ok.root.2.1
  omega
 have hne : (Pa.commit m r 524288).1.root ≠ sure.root := fun e => by
  rw [hqe, h.root] at e
  have e2 : (Pa.rootOf m r).seq = m.root.seq := congrArg Rt.Root.seq e
  omega
 cases hcom with
 | arg h1 => rw [he1] at h1; cases h1
 | full F' t' h1 => rw [he1] at h1; cases h1
 | done F' t' tn h1 h2 h3 h4 h5 h6 h8 htn =>
  left
  rw [he2] at h2
  have hg := Goes.tn tn (Goes.commit h.goes hc2 h2)
  rw [hq] at hg
  rw [he2]
  refine ⟨h5, rfl, ⟨hg, rfl, rfl, fun x hx => ?_, by rw [h4]; rfl, h5, fun y hy => ?_, ?_, ?_, by rw [h3.seen]; exact h.seen, by rw [h3.sure]; exact h.sur, by rw [h3.row]; exact h.row, by rw [h3.room]; exact h.room, by have := h.turns; show tn ≤ _; omega⟩, rfl, h8⟩
  ·obtain ⟨l, rfl⟩ := hx
   rw [h4, Sf.kept1_none]
   refine ⟨?_, h2.root, fun p hp => ?_⟩
   ·rw [h2.len]; exact Nat.le_trans h.big (sizeL_base _ _)
   ·obtain ⟨u, hu, rfl⟩ := List.mem_map.1 hp
    have hu1 := List.mem_filter.1 hu
    refine ⟨?_, rfl⟩
    obtain ⟨z, hz, e⟩ := mem_bare (l := (Pa.commit m r 524288).1.l) hg.l.symm hu1.1
    have hn : z.n = u.n := by have := congrArg Pa.Page.n e; rwa [bare_n, bare_n] at this
    have hs2 : z.state ≠ 2 := by have := congrArg Pa.Page.state e; rw [bare_state, bare_state] at this; rw [this]; simpa using hu1.2
    have := (rdE_ok (hg.page z hz hs2)).1
    rwa [hn] at this
  ·rw [hqe] at hy
   obtain ⟨z, hz, rfl⟩ := List.mem_map.1 hy
   have := h.few z (List.mem_filter.1 hz).1
   show z.n < _
   omega
  ·rw [h2.len]; exact Nat.le_trans h.big (sizeL_base _ _)
  ·rw [h2.len]
   refine sizeL_bound s.l _ (by have := h.len; omega) (fun y hy => ?_)
   obtain ⟨z, hz, e⟩ := mem_bare (l := m.l) h.goes.l.symm hy
   have hn : z.n = y.n := by have := congrArg Pa.Page.n e; rwa [bare_n, bare_n] at this
   have := h.few z hz
   omega
 | dead e s' F' t' h1 h2 h3 h4 h5 h6 h7 =>
  right
  refine ⟨h4, h5, ⟨by rw [h3.sure]; exact h.sur, by rw [h3.row]; exact h.row, fun x hx => ?_⟩, h6⟩
  rcases h7 h.dur he1 x hx with ht | ht
  ·exact ⟨ht.1, .inl (h.goes.tell h.root h.back ht)⟩
  ·refine ⟨ht.1, .inr ⟨?_, hne⟩⟩
   rw [he2] at ht
   have hmem : ∀ y ∈ (Pa.keep m.l).map Pa.used, ∃ z ∈ m.l, z.state ≠ 3 ∧ y = Pa.used z := fun y hy => by
    obtain ⟨z, hz, rfl⟩ := List.mem_map.1 hy
    have h1 := List.mem_filter.1 hz
    exact ⟨z, h1.1, by simpa using h1.2, rfl⟩
   have hbk : Pa.backL (Pa.commit m r 524288).1.l = (Pa.keep m.l).map Pa.used := by rw [hqe]; exact back_kept m.l
   have hrt : (Pa.commit m r 524288).1.root = Pa.rootOf m r := by rw [hqe]
   refine ⟨⟨by rw [hrt]; exact hmay, ?_, fun y hy => ?_⟩, fun y hy => ?_, fun y hy => ?_, by rw [hrt]; exact ht.2.1⟩
   ·show Pa.Rising (Pa.backL (Pa.commit m r 524288).1.l)
    rw [hbk]
    exact rising_map (rising_filter h.goes.ok.rise _) (fun _ => rfl)
   ·have hy : y ∈ Pa.backL (Pa.commit m r 524288).1.l := hy
    rw [hbk] at hy
    obtain ⟨z, hz, _, rfl⟩ := hmem y hy
    have h9 := h.goes.ok.from2 z hz
    exact ⟨h9.1, h9.2.1, .inl rfl, h9.2.2.2⟩
   ·rw [hbk] at hy
    obtain ⟨z, hz, h3', rfl⟩ := hmem y hy
    have h9 := h.goes.ok.from2 z hz
    obtain ⟨u, hu, e⟩ := mem_bare h.goes.l hz
    have hn : u.n = z.n := by have := congrArg Pa.Page.n e; rwa [bare_n, bare_n] at this
    have hst : u.state = z.state := by have := congrArg Pa.Page.state e; rwa [bare_state, bare_state] at this
    have hh := ht.2.2 _ (List.mem_map.2 ⟨u, List.mem_filter.2 ⟨hu, by rw [decide_eq_true_eq, hst]; exact h3'⟩, rfl⟩)
    simp only at hh
    rw [hn] at hh
    show rdE x z.n = (z.kind, z.body, 0)
    refine rdE_of hh.1 ?_
    rw [hh.2]
    by_cases hz2 : z.state = 2
    ·rw [if_pos (hst.trans hz2)]
     have eu : u = z := by rw [bare_pend (hst.trans hz2), bare_pend hz2] at e; exact e
     rw [eu]
     exact getE_page h9.2.1 h9.2.2.2.2.1
    ·rw [if_neg (by rw [hst]; exact hz2)]
     exact (rdE_ok (h.goes.page z hz hz2)).2
   ·rw [hbk] at hy
    obtain ⟨z, hz, h3', rfl⟩ := hmem y hy
    rw [hrt]
    exact pages_more h.goes.ok.rise (fun x hx => (h.goes.ok.from2 x hx).1) z hz h3'
end
theorem Ends.left {t : Sf.St} {name : ByteArray} {k : Nat} {sure under : Pa.M} (h : Ends t name k sure under) (l : List Int) :
  ∃ i x, Sf.get (Sf.fail t l) name = (i, 0) ∧ Sf.now (Sf.fileAt (Sf.fail t l) i) = x ∧ (Sf.fail t l).dead = false ∧ 1024 ≤ x.length ∧ (Tell x sure ∨ (Tell x under ∧ under.root ≠ sure.root)) := by
 have hd : Sf.dirOf t l = t.sure := Sf.dirOf_sure h.row l
 have hf0 : Sf.find (Sf.dirOf t l) name = some k := by rw [hd]; exact h.sur
 obtain ⟨i, hi, hf⟩ := Sf.find_at hf0
 obtain ⟨l', hl⟩ := Sf.kept_at t (Sf.dirOf t l) (l.drop 1) i _ hi
 have hg : Sf.get (Sf.fail t l) name = (i, 0) := by
  unfold Sf.get Sf.fail
  simp only [Bool.false_eq_true, if_false]
  rw [hf]
 have hfile : Sf.fileAt (Sf.fail t l) i = ⟨(Sf.kept1 (Sf.fileAt t k) l').1, []⟩ := by
  unfold Sf.fileAt Sf.fail
  simp only
  rw [List.getD_eq_getElem?_getD, List.getElem?_map, hl]
  rfl
 exact ⟨i, _, hg, by rw [hfile]; rfl, rfl, h.all _ ⟨l', rfl⟩⟩
theorem open_left {t : Sf.St} {name : ByteArray} {i : Nat} {x : List Nat} {r : Rt.Root} (hg : Sf.get t name = (i, 0)) (hx : Sf.now (Sf.fileAt t i) = x) (hl : 1024 ≤ x.length) (ht : told x = (r, 0)) : openE t name 3 = (some ⟨name, r, 3, [], 0⟩, 0) := by
 unfold openE
 rw [if_neg (by omega), hg, if_neg (by simp)]
 simp only [hx]
 rw [if_neg (by omega), ht, if_neg (by simp)]
 rfl
end Pp
end Go.Proofs.YtiafeniflkikeaaGreat
