/-
  sha.Press presses a block into a state.
-/
import Derived.Test.YtejipcnihgpdhaaSpRound
import Derived.Test.YtejipcnihgpdhaaSpSpread
import Derived.Test.YtejipcnihgpdhaaInv
import Derived.Test.YtejipcnihgpdhaaShAdd
namespace Go.Proofs.Ytejipcnihgpdhaa
open Go.RowKit
set_option linter.unusedVariables false

/-- The state of Press's first region: what has come up, and where it lies. -/
def PI (B : Nat) (w0 : World) (sc bc pv : Array Value) (listed : Array Bool) (a : Act) (w' : World) : Prop :=
  listed.size = 7 ∧ Below w0.heap.size w0 w' ∧ ∃ (g5 g6 : Nat) (x5 x6 x11 x12 x13 : Value),
    a = { tmps := #[.agg sc, .agg bc, .pointer (some ⟨B, 0, none⟩), .pointer (some ⟨B + 1, 0, none⟩), .pointer (some ⟨B + 1 + 1, 0, none⟩), x5, x6, undef, undef, undef, undef, x11, x12, x13, undef, undef, undef, undef, undef, undef, undef, undef, undef, undef, undef, undef, undef, undef, undef, undef, undef, undef, undef, undef, undef, undef, undef, undef, undef, undef], defers := [] }
    ∧ (listed.getD 0 false = true → x11 = .agg kcells) ∧ (listed.getD 1 false = true → x12 = .agg bc) ∧ (listed.getD 2 false = true → x13 = .agg (pv))
    ∧ (listed.getD 3 false = true → x5 = .pointer (some ⟨g5, 0, none⟩) ∧ w0.heap.size ≤ g5 ∧ Rw w' g5 53 (if listed.getD 5 false then kcells else noughts52))
    ∧ (listed.getD 4 false = true → x6 = .pointer (some ⟨g6, 0, none⟩) ∧ w0.heap.size ≤ g6 ∧ Rw w' g6 53 (if listed.getD 6 false then pv else noughts52))
    ∧ (listed.getD 3 false = true → listed.getD 4 false = true → g5 ≠ g6)
    ∧ (listed.getD 5 false = true → listed.getD 3 false = true) ∧ (listed.getD 6 false = true → listed.getD 4 false = true)

set_option maxHeartbeats 1000000 in
set_option maxRecDepth 100000 in
theorem press_any (s : Sh.St) (b : List Nat) (hb : b.length = 64) (hb8 : ∀ x ∈ b, x < 256) (w : World) :
    Calls Try.prog 10 #[.agg (stv s), .agg (bvs b)] w (IsSt (Sh.press s b) w) := by
  have HSP := Lib.hid (spread_any b hb hb8)
  have hbsz : (bvs b).size = 64 := by rw [bvs_size]; exact hb
  clear hb hb8
  obtain ⟨sc, hsc⟩ : ∃ c, stv s = c := ⟨_, rfl⟩
  obtain ⟨bc, hbc⟩ : ∃ c, bvs b = c := ⟨_, rfl⟩
  rw [hbc] at HSP hbsz
  rw [hsc, hbc]
  have HSC := Lib.hid hsc
  clear hsc hbc
  have hpsz : (sch b 64).size = 64 := sch_size b (by omega)
  have hpone : (sch b 64).all (·.oneCell') = true := one_of _
  have HCW : Hid (∀ k, k < 64 → (sch b 64)[k]? = some (.int .u32 (nt ((Sh.sched b 64).getD k 0) : Nat))) := fun k hk => sch_at b hk
  obtain ⟨pv, hpv⟩ : ∃ pv, sch b 64 = pv := ⟨_, rfl⟩
  rw [hpv] at HSP hpsz hpone HCW
  clear hpv
  have hzero := (zero_of_info zero52).1
  go_enter Try.func10, Try.ntmps10
  go_wp2
  generalize hW : ((w.alloc _).alloc _).alloc _ = w0
  have H0 : Hid (Rw w0 w.heap.size 23 sc) := by unfold Hid; rw [← hW]; exact ((Rw.new w _ _).old _).old _
  have H1 : Hid (Rw w0 (w.heap.size + 1) 24 bc) := by unfold Hid; rw [← hW]; exact (Rw.at_ (by simp) _ _).old _
  have H2 : Hid (Rw w0 (w.heap.size + 2) 23 #[.int .u32 0, .int .u32 0, .int .u32 0, .int .u32 0, .int .u32 0, .int .u32 0, .int .u32 0, .int .u32 0]) := by unfold Hid; rw [← hW]; exact Rw.at_ (by simp) _ _
  have HB0 : Hid (Below w.heap.size w w0) := by unfold Hid; rw [← hW]; exact (((Below.refl w.heap.size w).alloc (Nat.le_refl _) _).alloc (by simp) _).alloc (by simp; omega) _
  clear hW
  refine wp_region_any (by kernel_rfl) (wpAny_inv (I := PI w.heap.size w0 sc bc pv) ?_ ?_ 7 _ _ _ (by decide) ?_)
  · rintro listed a w' ⟨hs, hbel, g5, g6, x5, x6, x11, x12, x13, rfl, p0, p1, p2, p3, p4, p5, q5, q6⟩ i hi
    have hi7 : i < 7 := by
      obtain ⟨_, o, ho, _⟩ := mem_ready.1 hi
      exact (Array.getElem?_eq_some_iff.1 ho).1
    have hnot := ready_not hi
    have hgd := getD_bits (listed := listed) (i := i) (by omega)
    have hsz : (listed.setIfInBounds i true).size = 7 := by rw [Array.size_setIfInBounds]; exact hs
    rcases i with _|_|_|_|_|_|_|i
    · have e0 : (listed.setIfInBounds 0 true).getD 0 false = true := hgd 0
      have e1 : (listed.setIfInBounds 0 true).getD 1 false = listed.getD 1 false := hgd 1
      have e2 : (listed.setIfInBounds 0 true).getD 2 false = listed.getD 2 false := hgd 2
      have e3 : (listed.setIfInBounds 0 true).getD 3 false = listed.getD 3 false := hgd 3
      have e4 : (listed.setIfInBounds 0 true).getD 4 false = listed.getD 4 false := hgd 4
      have e5 : (listed.setIfInBounds 0 true).getD 5 false = listed.getD 5 false := hgd 5
      have e6 : (listed.setIfInBounds 0 true).getD 6 false = listed.getD 6 false := hgd 6
      refine wpOp_some rfl rfl ?_
      go_simp
      refine (constants_any w').mono ?_
      rintro e w'' ⟨rfl, hb⟩
      simp only [PI, e0, e1, e2, e3, e4, e5, e6, eq_self, true_implies]
      exact ⟨hsz, hbel.trans (hb.mono hbel.size), g5, g6, x5, x6, _, x12, x13, rfl, rfl, p1, p2, fun h => ⟨(p3 h).1, (p3 h).2.1, (p3 h).2.2.below hb (p3 h).2.2.lt⟩, fun h => ⟨(p4 h).1, (p4 h).2.1, (p4 h).2.2.below hb (p4 h).2.2.lt⟩, p5, q5, q6⟩
    · have e0 : (listed.setIfInBounds 1 true).getD 0 false = listed.getD 0 false := hgd 0
      have e1 : (listed.setIfInBounds 1 true).getD 1 false = true := hgd 1
      have e2 : (listed.setIfInBounds 1 true).getD 2 false = listed.getD 2 false := hgd 2
      have e3 : (listed.setIfInBounds 1 true).getD 3 false = listed.getD 3 false := hgd 3
      have e4 : (listed.setIfInBounds 1 true).getD 4 false = listed.getD 4 false := hgd 4
      have e5 : (listed.setIfInBounds 1 true).getD 5 false = listed.getD 5 false := hgd 5
      have e6 : (listed.setIfInBounds 1 true).getD 6 false = listed.getD 6 false := hgd 6
      refine wpOp_some rfl rfl ?_
      refine wp_load_row 24 _ rfl (w.heap.size + 1) rfl 24 bc (0, 0) _ (H1.out.below hbel H1.out.lt) Try.underlying24 rfl (by rw [hbsz]; exact size24) ?_
      simp only [PI, e0, e1, e2, e3, e4, e5, e6, eq_self, true_implies]
      exact ⟨hsz, hbel, g5, g6, x5, x6, x11, _, x13, rfl, p0, rfl, p2, p3, p4, p5, q5, q6⟩
    · have e0 : (listed.setIfInBounds 2 true).getD 0 false = listed.getD 0 false := hgd 0
      have e1 : (listed.setIfInBounds 2 true).getD 1 false = listed.getD 1 false := hgd 1
      have e2 : (listed.setIfInBounds 2 true).getD 2 false = true := hgd 2
      have e3 : (listed.setIfInBounds 2 true).getD 3 false = listed.getD 3 false := hgd 3
      have e4 : (listed.setIfInBounds 2 true).getD 4 false = listed.getD 4 false := hgd 4
      have e5 : (listed.setIfInBounds 2 true).getD 5 false = listed.getD 5 false := hgd 5
      have e6 : (listed.setIfInBounds 2 true).getD 6 false = listed.getD 6 false := hgd 6
      have h1 : listed.getD 1 false = true := ready_has (md := .any) hi rfl (e := ⟨1, .data⟩) (by simp) rfl
      obtain rfl := p1 h1
      refine wpOp_some rfl rfl ?_
      go_simp
      refine (HSP.out w').mono ?_
      rintro e w'' ⟨rfl, hb⟩
      simp only [PI, e0, e1, e2, e3, e4, e5, e6, eq_self, true_implies]
      exact ⟨hsz, hbel.trans (hb.mono hbel.size), g5, g6, x5, x6, x11, _, _, rfl, p0, fun _ => rfl, rfl, fun h => ⟨(p3 h).1, (p3 h).2.1, (p3 h).2.2.below hb (p3 h).2.2.lt⟩, fun h => ⟨(p4 h).1, (p4 h).2.1, (p4 h).2.2.below hb (p4 h).2.2.lt⟩, p5, q5, q6⟩
    · have e0 : (listed.setIfInBounds 3 true).getD 0 false = listed.getD 0 false := hgd 0
      have e1 : (listed.setIfInBounds 3 true).getD 1 false = listed.getD 1 false := hgd 1
      have e2 : (listed.setIfInBounds 3 true).getD 2 false = listed.getD 2 false := hgd 2
      have e3 : (listed.setIfInBounds 3 true).getD 3 false = true := hgd 3
      have e4 : (listed.setIfInBounds 3 true).getD 4 false = listed.getD 4 false := hgd 4
      have e5 : (listed.setIfInBounds 3 true).getD 5 false = listed.getD 5 false := hgd 5
      have e6 : (listed.setIfInBounds 3 true).getD 6 false = listed.getD 6 false := hgd 6
      have n5 : listed.getD 5 false = false := by
        cases h : listed.getD 5 false with
        | false => rfl
        | true => rw [q5 h] at hnot; cases hnot
      refine wpOp_some rfl rfl ?_
      go_simp
      simp only [PI, e0, e1, e2, e3, e4, e5, e6, eq_self, true_implies]
      refine ⟨hsz, hbel.alloc hbel.size _, w'.heap.size, g6, _, x6, x11, x12, x13, rfl, p0, p1, p2, ⟨rfl, hbel.size, ?_⟩, fun h => ⟨(p4 h).1, (p4 h).2.1, (p4 h).2.2.old _⟩, fun h => ?_, fun _ => trivial, q6⟩
      · rw [n5]; exact Rw.new _ _ _
      · have := (p4 h).2.2.lt; omega
    · have e0 : (listed.setIfInBounds 4 true).getD 0 false = listed.getD 0 false := hgd 0
      have e1 : (listed.setIfInBounds 4 true).getD 1 false = listed.getD 1 false := hgd 1
      have e2 : (listed.setIfInBounds 4 true).getD 2 false = listed.getD 2 false := hgd 2
      have e3 : (listed.setIfInBounds 4 true).getD 3 false = listed.getD 3 false := hgd 3
      have e4 : (listed.setIfInBounds 4 true).getD 4 false = true := hgd 4
      have e5 : (listed.setIfInBounds 4 true).getD 5 false = listed.getD 5 false := hgd 5
      have e6 : (listed.setIfInBounds 4 true).getD 6 false = listed.getD 6 false := hgd 6
      have n6 : listed.getD 6 false = false := by
        cases h : listed.getD 6 false with
        | false => rfl
        | true => rw [q6 h] at hnot; cases hnot
      refine wpOp_some rfl rfl ?_
      go_simp
      simp only [PI, e0, e1, e2, e3, e4, e5, e6, eq_self, true_implies]
      refine ⟨hsz, hbel.alloc hbel.size _, g5, w'.heap.size, x5, _, x11, x12, x13, rfl, p0, p1, p2, fun h => ⟨(p3 h).1, (p3 h).2.1, (p3 h).2.2.old _⟩, ⟨rfl, hbel.size, ?_⟩, fun h => ?_, q5, fun _ => trivial⟩
      · rw [n6]; exact Rw.new _ _ _
      · have := (p3 h).2.2.lt; omega
    · have e0 : (listed.setIfInBounds 5 true).getD 0 false = listed.getD 0 false := hgd 0
      have e1 : (listed.setIfInBounds 5 true).getD 1 false = listed.getD 1 false := hgd 1
      have e2 : (listed.setIfInBounds 5 true).getD 2 false = listed.getD 2 false := hgd 2
      have e3 : (listed.setIfInBounds 5 true).getD 3 false = listed.getD 3 false := hgd 3
      have e4 : (listed.setIfInBounds 5 true).getD 4 false = listed.getD 4 false := hgd 4
      have e5 : (listed.setIfInBounds 5 true).getD 5 false = true := hgd 5
      have e6 : (listed.setIfInBounds 5 true).getD 6 false = listed.getD 6 false := hgd 6
      have h3 : listed.getD 3 false = true := ready_has (md := .any) hi rfl (e := ⟨3, .data⟩) (by simp) rfl
      have h0 : listed.getD 0 false = true := ready_has (md := .any) hi rfl (e := ⟨0, .data⟩) (by simp) rfl
      obtain rfl := p0 h0
      obtain ⟨rfl, hg, hr⟩ := p3 h3
      rw [hnot] at hr
      refine wpOp_some rfl rfl ?_
      refine wp_store_row 53 _ _ rfl g5 kcells rfl rfl 53 noughts52 hr (by rw [kcells_size]; exact size52) (by rw [kcells_size]; rfl) kcells_one ?_
      simp only [PI, e0, e1, e2, e3, e4, e5, e6, eq_self, if_true, true_implies]
      exact ⟨hsz, hbel.trans (below_setRow (Below.refl _ _) hg _), g5, g6, _, x6, _, x12, x13, rfl, fun _ => rfl, p1, p2, fun _ => ⟨rfl, hg, hr.row _⟩, fun h => ⟨(p4 h).1, (p4 h).2.1, (p4 h).2.2.rowOther (p5 h3 h).symm _⟩, p5, h3, q6⟩
    · have e0 : (listed.setIfInBounds 6 true).getD 0 false = listed.getD 0 false := hgd 0
      have e1 : (listed.setIfInBounds 6 true).getD 1 false = listed.getD 1 false := hgd 1
      have e2 : (listed.setIfInBounds 6 true).getD 2 false = listed.getD 2 false := hgd 2
      have e3 : (listed.setIfInBounds 6 true).getD 3 false = listed.getD 3 false := hgd 3
      have e4 : (listed.setIfInBounds 6 true).getD 4 false = listed.getD 4 false := hgd 4
      have e5 : (listed.setIfInBounds 6 true).getD 5 false = listed.getD 5 false := hgd 5
      have e6 : (listed.setIfInBounds 6 true).getD 6 false = true := hgd 6
      have h4 : listed.getD 4 false = true := ready_has (md := .any) hi rfl (e := ⟨4, .data⟩) (by simp) rfl
      have h2 : listed.getD 2 false = true := ready_has (md := .any) hi rfl (e := ⟨2, .data⟩) (by simp) rfl
      obtain rfl := p2 h2
      obtain ⟨rfl, hg, hr⟩ := p4 h4
      rw [hnot] at hr
      refine wpOp_some rfl rfl ?_
      refine wp_store_row 53 _ _ rfl g6 pv rfl rfl 53 noughts52 hr (by rw [hpsz]; exact size52) (by rw [hpsz]; rfl) hpone ?_
      simp only [PI, e0, e1, e2, e3, e4, e5, e6, eq_self, if_true, true_implies]
      exact ⟨hsz, hbel.trans (below_setRow (Below.refl _ _) hg _), g5, g6, x5, _, x11, x12, _, rfl, p0, p1, fun _ => rfl, fun h => ⟨(p3 h).1, (p3 h).2.1, (p3 h).2.2.rowOther (p5 h h4) _⟩, fun _ => ⟨rfl, hg, hr.row _⟩, p5, q5, h4⟩
    · omega
  · rintro listed a w' ⟨hs, hbel, g5, g6, x5, x6, x11, x12, x13, rfl, p0, p1, p2, p3, p4, p5, q5, q6⟩ hrd
    have f0 : listed.getD 0 false = true := ready_done hrd rfl (by omega) (by simp)
    have f1 : listed.getD 1 false = true := ready_done hrd rfl (by omega) (by simp)
    have f3 : listed.getD 3 false = true := ready_done hrd rfl (by omega) (by simp)
    have f4 : listed.getD 4 false = true := ready_done hrd rfl (by omega) (by simp)
    have f2 : listed.getD 2 false = true := ready_done hrd rfl (by omega) (by
      intro e he _
      simp at he
      rcases he with rfl | rfl <;> assumption)
    have f5 : listed.getD 5 false = true := ready_done hrd rfl (by omega) (by
      intro e he _
      simp at he
      rcases he with rfl | rfl | rfl | rfl | rfl | rfl | rfl | rfl <;> assumption)
    have f6 : listed.getD 6 false = true := ready_done hrd rfl (by omega) (by
      intro e he _
      simp at he
      rcases he with rfl | rfl | rfl | rfl | rfl | rfl | rfl | rfl | rfl <;> assumption)
    obtain rfl := p0 f0
    obtain rfl := p1 f1
    obtain rfl := p2 f2
    obtain ⟨rfl, hg5, hr5⟩ := p3 f3
    obtain ⟨rfl, hg6, hr6⟩ := p4 f4
    rw [f5, if_pos rfl] at hr5
    rw [f6, if_pos rfl] at hr6
    have hne := p5 f3 f4
    have HR5 := Lib.hid hr5
    have HR6 := Lib.hid hr6
    have HS := Lib.hid (H0.out.below hbel H0.out.lt)
    have HZ := Lib.hid (H2.out.below hbel H2.out.lt)
    have hsz0 := H2.out.lt
    have HB := Lib.hid (HB0.out.trans (hbel.mono HB0.out.size))
    clear p0 p1 p2 p3 p4 p5 q5 q6 f0 f1 f2 f3 f4 f5 f6 hrd hr5 hr6 hbel hs H0 H1 H2 HB0
    dsimp only
    have hscs : sc.size = 8 := by rw [← HSC.out]; rfl
    have hsc1 : sc.all (·.oneCell') = true := by rw [← HSC.out]; exact stv_one s
    go_wp2_with (first
      | (refine wpList_load_row rfl _ _ rfl w.heap.size rfl 23 sc (0, 0) _ HS.out Try.underlying23 rfl (by rw [hscs]; exact size23) ?_)
      | (refine wpList_store_row rfl _ _ _ rfl w'.heap.size sc rfl rfl 23 _ (heap_alloc_new w' _) (by rw [hscs]; exact size23) (by rw [hscs]; rfl) hsc1 ?_
         rw [World.setRow_alloc_new]))
    obtain ⟨gv, hgve⟩ : ∃ g, w'.heap.size = g := ⟨_, rfl⟩
    have hgv5 : g5 < gv := by have := HR5.out.lt; omega
    have hgv6 : g6 < gv := by have := HR6.out.lt; omega
    have HS2 : Hid (Rw (w'.alloc (.cells sc 23)) w.heap.size 23 sc) := HS.out.old _
    have HZ2 := Lib.hid (HZ.out.old (.cells sc 23))
    have HK2 := Lib.hid (HR5.out.old (.cells sc 23))
    have HW2 := Lib.hid (HR6.out.old (.cells sc 23))
    have HV2 : Hid (Rw (w'.alloc (.cells sc 23)) gv 23 (stv (Sh.rounds s (Sh.sched b 64) 0))) := by
      have := Rw.at_ hgve.symm 23 sc
      rw [show Sh.rounds s (Sh.sched b 64) 0 = s from rfl, HSC.out]
      exact this
    have HB2 := Lib.hid (HB.out.alloc HB.out.size (.cells sc 23))
    rw [hgve]
    clear HS HZ HR5 HR6 HB hgve HSP
    go_loopw [15] (fun i wr => ∃ k : Nat, k ≤ 64 ∧ i = .int .i64 k ∧ Hid (Rw wr w.heap.size 23 sc) ∧ Hid (Rw wr (w.heap.size + 2) 23 #[.int .u32 0, .int .u32 0, .int .u32 0, .int .u32 0, .int .u32 0, .int .u32 0, .int .u32 0, .int .u32 0]) ∧ Hid (Rw wr g5 53 kcells) ∧ Hid (Rw wr g6 53 pv) ∧ Hid (Rw wr gv 23 (stv (Sh.rounds s (Sh.sched b 64) k))) ∧ Hid (Below w.heap.size w wr)) (fun i _ => 64 - (intOf i).toNat)
    case atStart => exact ⟨0, by omega, rfl, HS2.out, HZ2.out, HK2.out, HW2.out, HV2.out, HB2.out⟩
    case round =>
      clear HS2 HZ2 HK2 HW2 HV2 HB2
      obtain ⟨k, hk, rfl, HS, HZ, HK, HW, HV, HB⟩ := hrel
      by_cases h64 : k < 64
      · obtain ⟨x, hx⟩ : ∃ x, (Sh.sched b 64).getD k 0 = x := ⟨_, rfl⟩
        obtain ⟨kk, hkk⟩ : ∃ x, Sh.kc k = x := ⟨_, rfl⟩
        obtain ⟨S, hS⟩ : ∃ S, Sh.rounds s (Sh.sched b 64) k = S := ⟨_, rfl⟩
        have HR : Hid (Sh.rounds s (Sh.sched b 64) (k + 1) = Sh.round S kk x) := by unfold Hid; rw [← hx, ← hkk, ← hS]; rfl
        have ck : wr.drew.cell? ⟨g5, k, none⟩ = some (.int .u32 (nt kk : Nat)) := by rw [← hkk]; exact (HK.out.drew.cell k).trans (kcells_at h64)
        have cx : wr.drew.cell? ⟨g6, k, none⟩ = some (.int .u32 (nt x : Nat)) := by rw [← hx]; exact (HW.out.drew.cell k).trans (HCW.out k h64)
        have hrc := round_any S kk x
        rw [hS] at HV
        clear hx hkk hS
        have hvs : (stv S).size = 8 := rfl
        obtain ⟨vc, hvc⟩ : ∃ vc, stv S = vc := ⟨_, rfl⟩
        rw [hvc] at HV hvs hrc
        have HRC := Lib.hid hrc
        clear hvc hrc
        have i5 : (k : Int) < 64 := by omega
        go_wp2
        refine wp_region_still_tail 7 (by kernel_rfl) (by kernel_rfl) ?_
        change wpStill _ _ wr.drew _ _ _
        simp only [List.take_succ_cons, List.take_zero, List.drop_succ_cons, List.drop_zero]
        refine wpStill_load_row rfl _ _ rfl gv rfl 23 vc (0, 0) _ HV.out.drew Try.underlying23 rfl (by rw [hvs]; exact size23) ?_
        repeat still_step
        refine wpStill_nil ?_
        change wpList _ _ _ _ _ wr.drew
        go_wp2_with (fail)
        refine (HRC.out wr.drew).mono ?_
        rintro e w2 ⟨rfl, hb2⟩
        have hb2' : Below wr.heap.size wr w2 := (Below.refl _ _).drew.trans hb2
        have HS2 := Lib.hid (HS.out.below hb2' HS.out.lt)
        have HZ2 := Lib.hid (HZ.out.below hb2' HZ.out.lt)
        have HK2 := Lib.hid (HK.out.below hb2' HK.out.lt)
        have HW2 := Lib.hid (HW.out.below hb2' HW.out.lt)
        have HV2 := Lib.hid (HV.out.below hb2' HV.out.lt)
        have HB2 := Lib.hid (HB.out.trans (hb2'.mono HB.out.size))
        clear HS HZ HK HW HV HB hb2 hb2' ck cx
        go_wp2_with (refine wpList_store_row rfl _ _ _ rfl gv (stv (Sh.round S kk x)) rfl rfl 23 _ HV2.out (by rw [stv_size]; exact size23) (by rw [hvs]; rfl) (stv_one _) ?_)
        have hv : Rw (w2.setRow gv (stv (Sh.round S kk x))) gv 23 (stv (Sh.rounds s (Sh.sched b 64) (k + 1))) := by rw [HR.out]; exact HV2.out.row _
        exact ⟨⟨k + 1, by omega, by go_num, HS2.out.rowOther (by omega) _, HZ2.out.rowOther (by omega) _, HK2.out.rowOther (by omega) _, HW2.out.rowOther (by omega) _, hv, HB2.out.trans (below_setRow (Below.refl _ _) (by omega) _)⟩, by simp [intOf]; omega⟩
      · have hkk : k = 64 := by omega
        subst hkk
        have HP : Hid (Sh.press s b = s.add (Sh.rounds s (Sh.sched b 64) 64)) := rfl
        obtain ⟨R, hRe⟩ : ∃ R, Sh.rounds s (Sh.sched b 64) 64 = R := ⟨_, rfl⟩
        rw [hRe] at HV HP
        rw [← HSC.out] at HS
        clear hRe HW HK
        rw [show ((64 : Nat) : Int) = (64 : Int) from rfl]
        obtain ⟨rc, hrc⟩ : ∃ c, stv R = c := ⟨_, rfl⟩
        have hrsz : rc.size = 8 := by rw [← hrc]; rfl
        rw [hrc] at HV
        have HRC := Lib.hid hrc
        clear hrc
        go_wp2_with (refine wpList_load_row rfl _ _ rfl gv rfl 23 rc (0, 0) _ HV.out Try.underlying23 rfl (by rw [hrsz]; exact size23) ?_)
        go_loopw [28] (fun i wr => ∃ k : Nat, k ≤ 8 ∧ i = .int .i64 k ∧ Hid (Rw wr w.heap.size 23 (addk s R k)) ∧ Hid (Rw wr (w.heap.size + 2) 23 #[.int .u32 0, .int .u32 0, .int .u32 0, .int .u32 0, .int .u32 0, .int .u32 0, .int .u32 0, .int .u32 0]) ∧ Hid (Below w.heap.size w wr)) (fun i _ => 8 - (intOf i).toNat)
        case atStart => exact ⟨0, by omega, rfl, HS.out, HZ.out, HB.out⟩
        case round =>
          clear HS HZ HV HB
          obtain ⟨k, hk, rfl, HA, HZ, HB⟩ := hrel
          by_cases h8 : k < 8
          · obtain ⟨x, y, hx, hy, hset⟩ := addk_step s R h8
            have HST := Lib.hid hset
            have c0 : wr.cell? ⟨w.heap.size, k, none⟩ = some (.int .u32 (nt x : Nat)) := (HA.out.cell k).trans hx
            have cf : wr.frozen? ⟨w.heap.size, k, none⟩ = false := HA.out.frozen k
            have hix := index8 rc k _ h8 (by rw [← HRC.out]; exact hy)
            have i0 : (k : Int) < 8 := by omega
            have hax := addw
            clear hx hy hset
            go_wp2
            have hw := HA.out.set k (.int .u32 (nt (x + y) : Nat))
            rw [HST.out] at hw
            exact ⟨⟨k + 1, by omega, by go_num, hw, HZ.out.setOther (by omega) _ _, HB.out.setCell (Nat.le_refl _) _⟩, by simp [intOf]; omega⟩
          · have hk8 : k = 8 := by omega
            subst hk8
            rw [addk_end] at HA
            have hsz := stv_size8 (s.add R)
            have hone := stv_one (s.add R)
            obtain ⟨qv, hqv⟩ : ∃ qv, stv (s.add R) = qv := ⟨_, rfl⟩
            have HQV := Lib.hid hqv
            have hqs : qv.size = 8 := by rw [← hqv]; rfl
            rw [hqv] at HA hsz hone
            clear hqv
            rw [show ((8 : Nat) : Int) = (8 : Int) from rfl]
            go_wp2_with (first
              | (refine wpList_load_row rfl _ _ rfl w.heap.size rfl 23 qv (0, 0) _ HA.out Try.underlying23 rfl hsz ?_)
              | (refine wpList_store_row rfl _ _ _ rfl (w.heap.size + 2) qv rfl rfl 23 _ HZ.out hsz (by rw [hqs]; rfl) hone ?_))
            refine bodyPost_ret (v := .agg qv) (results_cell_row rfl _ _ (w.heap.size + 2) 23 qv (0, 0) _ rfl (Rw.row HZ.out qv) Try.underlying23 rfl hsz) rfl ⟨by rw [HP.out, HQV.out], HB.out.trans (below_setRow (Below.refl _ _) (by omega) _)⟩
  · refine ⟨by simp, (Below.refl _ w0).drew, 0, 0, undef, undef, undef, undef, undef, rfl, ?_⟩
    simp
end Go.Proofs.Ytejipcnihgpdhaa
