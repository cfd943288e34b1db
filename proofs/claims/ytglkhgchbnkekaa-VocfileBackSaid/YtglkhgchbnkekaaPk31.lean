/-
  VqSumOf: vocfile.sumOf: the four bytes of a row's sum, as an array.
  VqSum: vocfile's reading of the program: sum.
  VpMem: vocab.seen: what there is of a vocabulary so far: its memory.
-/
import Derived.Test.YtglkhgchbnkekaaPk05
import Derived.Test.YtglkhgchbnkekaaPk30
import Derived.Test.YtglkhgchbnkekaaPk07
import Derived.Test.YtglkhgchbnkekaaPk14
import Derived.Test.YtglkhgchbnkekaaPk16
import Derived.Test.YtglkhgchbnkekaaPk15
import Derived.Test.YtglkhgchbnkekaaPk08
import Derived.Deep.QuietTactic
import Derived.BigQuiet
import Derived.BigRegion
import Derived.StillTailTactics
namespace Go.Proofs.Ytglkhgchbnkekaa
open Go.RowKit
set_option linter.unusedVariables false

set_option maxHeartbeats 1000000 in
set_option maxRecDepth 100000 in
theorem vfsum_any (v : Value) (l : List Nat) (B : Nat) (w : World) (hB : B ≤ w.heap.size) (hv : Bv w B v l) :
    Calls Try.prog 25 #[v] w (IsFour (Cr.of l) w) := by
  have H0 := Lib.hid hv
  have HN := Lib.hid (Cr.of_b32 hv.lt_)
  obtain ⟨n, hn⟩ : ∃ n, Cr.of l = n := ⟨_, rfl⟩
  rw [hn] at HN
  obtain ⟨A, c, rfl, hlc, hcm, hnil, hb⟩ := hv
  have hb1 := ((Below.refl w.heap.size w).alloc (Nat.le_refl _) (.cells #[.int .u8 0, .int .u8 0, .int .u8 0, .int .u8 0] 51))
  have hb2 := hb1.alloc hb1.size (.cells #[.int .u8 0, .int .u8 0, .int .u8 0, .int .u8 0] 51)
  have HC := Lib.hid (of_any _ l B _ (H0.out.below_ hb2 hB))
  rw [hn] at HC
  have hn32 : n < 4294967296 := HN.out
  have HE : Hid (Cr.of l = n) := hn
  have HB1 := Lib.hid hb1
  clear hb1 hb2 hn hb hnil
  go_enter Try.func25, Try.ntmps25
  go_wp2_with fail
  ((with_reducible refine HC.out.mono ?_); rintro e w' ⟨rfl, rfl⟩)
  go_wp2
  go_loopw [8] (fun i wr => ∃ k : Nat, k ≤ 4 ∧ i = .int .i64 k ∧ wr = (w.alloc (.cells #[.int .u8 0, .int .u8 0, .int .u8 0, .int .u8 0] 51)).alloc (.cells (arr4 n k) 51)) (fun i _ => 4 - (intOf i).toNat)
  case atStart => exact ⟨0, by omega, rfl, rfl⟩
  case round =>
    obtain ⟨k, hk, rfl, rfl⟩ := hrel
    by_cases h4 : k < 4
    · have hx : (n : Int) / 2 ^ (8 * k) % 256 = ((Cr.byt n k : Nat) : Int) := by unfold Cr.byt; simp
      obtain ⟨x0, hx0⟩ := arr4_at n h4
      have HS := Lib.hid (arr4_set n h4)
      obtain ⟨c4, hc4⟩ : ∃ a, arr4 n k = a := ⟨_, rfl⟩
      rw [hc4] at hx0 HS ⊢
      clear hc4
      go_wp2
      rw [HS.out]
      exact ⟨⟨k + 1, by omega, by go_num, rfl⟩, by simp [intOf]; omega⟩
    · have h0 : k = 4 := by omega
      subst h0
      rw [arr4_end]
      go_wp2
      refine bodyPost_ret (v := .agg #[.int .u8 (Cr.byt n 0 : Nat), .int .u8 (Cr.byt n 1 : Nat), .int .u8 (Cr.byt n 2 : Nat), .int .u8 (Cr.byt n 3 : Nat)]) (by simp [results, Try.results25, go_sem]) rfl ⟨?_, ?_⟩
      · rw [HE.out]
      · exact ((Below.refl w.heap.size w).alloc (Nat.le_refl _) _).alloc (by simp) _
end Go.Proofs.Ytglkhgchbnkekaa
namespace Go.Proofs.Ytglkhgchbnkekaa
open Go.RowKit
set_option linter.unusedVariables false

def Vf.sumP (l : List Nat) (a : Nat) : Vf.R Unit :=
  if l.length - a < 4 then .bad 4 l.length else if (l.drop a).take 4 ≠ four (Cr.of (l.take a)) then .bad 6 a else if a + 4 < l.length then .bad 5 (a + 4) else .got () (a + 4)

theorem Lv.four_ {w : World} {B n c b off : Nat} {l : List Nat} (h : Lv yK w B (.slice (some ⟨b, off, none⟩) n c) l) {x s0 s1 s2 s3 : Nat} (hs : (l.drop x).take 4 = [s0, s1, s2, s3]) :
    w.cell? ⟨b, off + x, none⟩ = some (.int .u8 (s0 : Nat)) ∧ w.cell? ⟨b, off + x + 1, none⟩ = some (.int .u8 (s1 : Nat)) ∧ w.cell? ⟨b, off + x + 2, none⟩ = some (.int .u8 (s2 : Nat)) ∧ w.cell? ⟨b, off + x + 3, none⟩ = some (.int .u8 (s3 : Nat)) := by
  have hj : ∀ j s, j < 4 → ([s0, s1, s2, s3] : List Nat)[j]? = some s → w.cell? ⟨b, off + x + j, none⟩ = some (.int .u8 (s : Nat)) := by
    intro j s hj4 hsj
    rw [← hs, List.getElem?_take, if_pos hj4, List.getElem?_drop] at hsj
    obtain ⟨b', off', y, e, -, -, hy, hc⟩ := h.byte_ (List.getElem?_eq_some_iff.1 hsj).1
    injection e with e
    injection e with e1 e2
    subst e1 e2
    rw [hsj] at hy
    injection hy with hy
    subst hy
    rw [Nat.add_assoc]
    exact hc
  exact ⟨hj 0 s0 (by omega) rfl, hj 1 s1 (by omega) rfl, hj 2 s2 (by omega) rfl, hj 3 s3 (by omega) rfl⟩

theorem four_of {l : List Nat} {a : Nat} (h : ¬ l.length - a < 4) : ∃ s0 s1 s2 s3, (l.drop a).take 4 = [s0, s1, s2, s3] := by
  have hl : ((l.drop a).take 4).length = 4 := by rw [List.length_take, List.length_drop]; omega
  match hm : (l.drop a).take 4, hl with
  | [s0, s1, s2, s3], _ => exact ⟨s0, s1, s2, s3, rfl⟩

set_option maxHeartbeats 4000000 in
set_option maxRecDepth 100000 in
theorem pvsum_any (g : Nat) (v p q : Value) (a : Nat) (l : List Nat) (w : World) (h : Rdp w g v p q a) (hv : Lv yK w g v l) (ha : a ≤ l.length) :
    Calls Try.prog 55 #[.pointer (some ⟨g, 0, none⟩)] w (IsRd g v p q noV (Vf.sumP l a) w) := by
  have HH := Lib.hid h
  have c0 := h.b
  have c1 := h.at_
  have HLT : Hid (∀ x ∈ l, x < 256) := hv.ok_
  have HA := Lib.hid ha
  obtain ⟨A, c, rfl, h1, h2, -, -, -⟩ := id hv
  have hm : l.length ≤ 9223372036854775807 := by simp only [maxLen] at h2; omega
  have HV : Hid (∀ w', Turned (fun k => k = g) w w' → Lv yK w' g (.slice A l.length c) l) := fun w' ht => hv.turned_ ht (fun k hk e => by omega)
  obtain ⟨s3, s4⟩ := cut_hm yK yK_el A l.length c a a (Nat.le_refl _) (by omega)
  change ∀ w, (Instr.slice 27 (.slice A l.length c) none (some (.int .i64 (a : Nat))) (some (.int .i64 (a : Nat)))).run Try.prog w = _ at s3
  change ∀ w, (Instr.sliceAt 27 (.slice A l.length c) none (some (.int .i64 (a : Nat))) (some (.int .i64 (a : Nat)))).run Try.prog w = _ at s4
  have HTK : Hid (∀ w', Lv yK w' g (.slice A l.length c) l → Lv yK w' g (.slice A a a) (l.take a)) := fun w' h => (h.take_ ha).room_ (Nat.le_refl _) (by omega)
  have HSO : Hid (∀ w', Turned (fun k => k = g) w w' → Calls Try.prog 25 #[.slice A a a] w' (IsFour (Cr.of (l.take a)) w')) := fun w' ht =>
    vfsum_any _ (l.take a) g w' (Nat.le_trans (Nat.le_of_lt HH.out.lt_) ht.size) (HTK.out w' (HV.out w' ht)).bv_
  have HBW : Hid (∀ w', Turned (fun k => k = g) w w' → ∀ w'', Below w'.heap.size w' w'' → Turned (fun k => k = g) w w'') := fun w' ht w'' hb => ht.trans (Turned.of_below hb) (fun k hk h => absurd h (by have := ht.size; omega))
  by_cases h4 : l.length - a < 4
  · have HX : Hid (Vf.sumP l a = .bad 4 l.length) := if_pos h4
    have HC : Hid (∀ w', Rdp w' g (.slice A l.length c) p q a → Turned (fun k => k = g) w w' → Calls Try.prog 75 #[.pointer (some ⟨g, 0, none⟩), .int .i64 4] w' (fun e w'' => e = Fault 4 l.length ∧ Turned (fun k => k = g) w w'')) := fun w' hr ht =>
      (pvcut_bad g _ p q a 4 l w' hr (HV.out w' ht) HA.out (by omega) h4).mono (fun e w'' ⟨e1, e2⟩ => ⟨e1, ht.trans e2 (fun _ _ h => h)⟩)
    rw [HX.out]
    have HRc : Hid (Rdp w.drew g (.slice A l.length c) p q a) := h
    have HTc : Hid (Turned (fun k => k = g) w w.drew) := (Turned.refl _ w).drew
    clear h hv h1 h2 h4
    go_enter Try.func55, Try.ntmps55
    go_wp2
    refine wp_region_held_drew (S := fun _ => True) (by kernel_rfl) trivial (fun hHeld => ?_)
    refine wpAnyH_take (i := 0) (v := ?_) rfl (by kernel_rfl) (by kernel_rfl) (by kernel_rfl) (fun _ _ _ h => h) (Or.inl ⟨by rfl, (by intro w hSw; go_simp; with_reducible rfl)⟩) trivial ?_
    refine wpAnyH_take (i := 4) (v := ?_) rfl (by kernel_rfl) (by kernel_rfl) (by kernel_rfl) (fun _ _ _ h => h) (Or.inl ⟨by rfl, (by intro w hSw; go_simp; with_reducible rfl)⟩) trivial ?_
    simp only [Act.put, List.setIfInBounds_toArray]
    refine wpAnyH_ready (rs := [1]) (by kernel_rfl) (by simp) ?_
    refine AllReadyH.cons rfl (fun K hK => ?_) AllReadyH.nil
    clear hK
    go_simp
    refine (HC.out _ HRc.out HTc.out).mono ?_
    rintro e w2 ⟨rfl, ht⟩
    unfold Fault
    go_wp2
    exact bodyPost_panic rfl ⟨rfl, ht⟩
  · have HE : Hid (Vf.sumP l a = if (l.drop a).take 4 ≠ four (Cr.of (l.take a)) then .bad 6 a else if a + 4 < l.length then .bad 5 (a + 4) else .got () (a + 4)) := if_neg h4
    obtain ⟨b, off, y0, hAeq, hbg, -, -, -⟩ := hv.byte_ (k := a) (by omega)
    subst hAeq
    obtain ⟨s0, s1, s2, s3', hs⟩ := four_of h4
    have hs8 : ∀ z ∈ [s0, s1, s2, s3'], z < 256 := fun z hz => by rw [← hs] at hz; exact HLT.out z (List.mem_of_mem_drop (List.mem_of_mem_take hz))
    have hr1 : ¬ l.length - a < 4 := h4
    have HC : Hid (∀ w', Rdp w' g (.slice (some ⟨b, off, none⟩) l.length c) p q a → Turned (fun k => k = g) w w' → Calls Try.prog 75 #[.pointer (some ⟨g, 0, none⟩), .int .i64 4] w' (fun e w'' => e = .returned (.slice (some ⟨b, off + a, none⟩) 4 4) ∧ Rdp w'' g (.slice (some ⟨b, off, none⟩) l.length c) p q (a + 4) ∧ Turned (fun k => k = g) w w'')) := fun w' hr ht =>
      (pvcut_got g _ p q a 4 l w' hr (HV.out w' ht) HA.out (by omega) hr1).mono (fun e w'' ⟨A2, e1, e2, e3, e4, e5⟩ => by
        have e6 := e5 _ _ _ rfl
        unfold cutAddr at e6
        rw [if_neg (by omega)] at e6
        simp only [Option.map_some, Nat.mul_one, add_addr] at e6
        subst e6
        exact ⟨e1, e3, ht.trans e4 (fun _ _ h => h)⟩)
    obtain ⟨n, hn⟩ : ∃ n, Cr.of (l.take a) = n := ⟨_, rfl⟩
    rw [hn, hs] at HE
    rw [hn] at HSO
    have HFC : Hid (∀ w', Turned (fun k => k = g) w w' → w'.cell? ⟨b, off + a, none⟩ = some (.int .u8 (s0 : Nat)) ∧ w'.cell? ⟨b, off + a + 1, none⟩ = some (.int .u8 (s1 : Nat)) ∧ w'.cell? ⟨b, off + a + 2, none⟩ = some (.int .u8 (s2 : Nat)) ∧ w'.cell? ⟨b, off + a + 3, none⟩ = some (.int .u8 (s3' : Nat))) := fun w' ht => (HV.out w' ht).four_ hs
    obtain ⟨eq, hqe⟩ : ∃ eq : Bool, decide ([s0, s1, s2, s3'] = four n) = eq := ⟨_, rfl⟩
    have HEQ : ∀ w, (Op.equalIn 10000 51 (.agg #[.int .u8 (s0 : Nat), .int .u8 (s1 : Nat), .int .u8 (s2 : Nat), .int .u8 (s3' : Nat)]) (.agg #[.int .u8 (Cr.byt n 0 : Nat), .int .u8 (Cr.byt n 1 : Nat), .int .u8 (Cr.byt n 2 : Nat), .int .u8 (Cr.byt n 3 : Nat)])).run Try.prog w = .ok eq w := fun w => by rw [← hqe]; exact equal4 rfl rfl hs8 (four_lt n) w
    have HQE := Lib.hid hqe
    have har := fun w => array_at ⟨b, off + a, none⟩ w
    have HRc : Hid (Rdp w.drew g (.slice (some ⟨b, off, none⟩) l.length c) p q a) := h
    have HTc : Hid (Turned (fun k => k = g) w w.drew) := (Turned.refl _ w).drew
    have hsc := HFC.out _ HTc.out
    obtain ⟨m, hma⟩ : ∃ m, a + 4 = m := ⟨_, rfl⟩
    rw [hma] at HC HE
    clear h hv h1 h2 h4 hr1 hs hn hs8 hqe hbg
    go_enter Try.func55, Try.ntmps55
    go_wp2
    go_region_held3 (fun w' => w'.cell? ⟨b, off + a, none⟩ = some (.int .u8 (s0 : Nat)) ∧ w'.cell? ⟨b, off + a + 1, none⟩ = some (.int .u8 (s1 : Nat)) ∧ w'.cell? ⟨b, off + a + 2, none⟩ = some (.int .u8 (s2 : Nat)) ∧ w'.cell? ⟨b, off + a + 3, none⟩ = some (.int .u8 (s3' : Nat)))
      (first | exact hsc | exact hsc1 | exact hsc2)
      (first
        | (go_at_call 75; (with_reducible refine (HC.out _ HRc.out HTc.out).mono ?_); rintro en w1 ⟨rfl, hr1, ht1⟩; have HR1 := Lib.hid hr1; have HT1 := Lib.hid ht1; have hsc1 := HFC.out _ ht1; have HS1 := Lib.hid (HSO.out _ ht1); clear hr1 ht1)
        | (go_at_call 25; (with_reducible refine HS1.out.mono ?_); rintro en w2 ⟨rfl, hb2⟩; have HT2 := Lib.hid (HBW.out _ HT1.out _ hb2); have HR2 := Lib.hid (HR1.out.below_ hb2 HR1.out.lt_); have hsc2 := HFC.out _ HT2.out; clear hb2))
    all_goals (
      have k0 := HR2.out.b
      have k1 := HR2.out.at_
      clear hsc hsc1 hsc2 HC HSO HS1 HR1 HT1 HRc HTc HFC HEQ har s3 s4 c0 c1 HTK
      by_cases hsm : [s0, s1, s2, s3'] = four n
      · have he : eq = true := by rw [← HQE.out]; exact decide_eq_true hsm
        subst he
        by_cases hlm : m < l.length
        · have g5 : (m : Int) < (l.length : Int) := by omega
          have HX : Hid (Vf.sumP l a = .bad 5 m) := by unfold Hid; rw [HE.out, if_neg (by simp [hsm]), if_pos hlm]
          clear HE hsm hlm
          go_wp2
          go_quiet (fail)
          generalize hW9 : w2.drewN _ = w9
          have HH9 : Hid (Rdp w9 g (.slice (some ⟨b, off, none⟩) l.length c) p q m) := by unfold Hid; rw [← hW9]; exact HR2.out.drewN_ _
          have HT9 : Hid (Turned (fun k => k = g) w w9) := by unfold Hid; rw [← hW9]; exact HT2.out.drewN _
          have k9 := HH9.out.at_
          clear hW9 k0 k1
          go_wp2
          refine bodyPost_panic rfl ?_
          rw [HX.out]
          exact ⟨rfl, HT9.out⟩
        · have g5 : ¬ (m : Int) < (l.length : Int) := by omega
          have HX : Hid (Vf.sumP l a = .got () m) := by unfold Hid; rw [HE.out, if_neg (by simp [hsm]), if_neg hlm]
          clear HE hsm hlm
          go_wp2
          go_quiet (fail)
          generalize hW9 : w2.drewN _ = w9
          have HH9 : Hid (Rdp w9 g (.slice (some ⟨b, off, none⟩) l.length c) p q m) := by unfold Hid; rw [← hW9]; exact HR2.out.drewN_ _
          have HT9 : Hid (Turned (fun k => k = g) w w9) := by unfold Hid; rw [← hW9]; exact HT2.out.drewN _
          clear hW9 k0 k1
          go_wp2
          refine bodyPost_end (results_none rfl _ _ _) ?_ ?_
          · rfl
          rw [HX.out]
          exact ⟨rfl, HH9.out, HT9.out⟩
      · have he : eq = false := by rw [← HQE.out]; exact decide_eq_false hsm
        subst he
        have HX : Hid (Vf.sumP l a = .bad 6 a) := by unfold Hid; rw [HE.out, if_pos hsm]
        clear HE hsm k0 k1
        go_wp2
        refine bodyPost_panic rfl ?_
        rw [HX.out]
        exact ⟨rfl, HT2.out⟩)
end Go.Proofs.Ytglkhgchbnkekaa
namespace Go.Proofs.Ytglkhgchbnkekaa
open Go.RowKit Go.Maps
set_option linter.unusedVariables false

theorem pair_arr : WideMaps.ArrKey Try.prog 114 3 2 := ⟨Try.underlying114, by kernel_rfl, by kernel_rfl, by kernel_rfl⟩
theorem pair_law : WideMaps.KeyLaw Try.prog 114 := deep_law_laid laidOut (m := 3) (by omega) (of_decide_eq_true (by kernel_rfl)) (by kernel_rfl) (by rw [Try.underlying114])
theorem pair_size : ∃ m, Try.prog.types.size = m + 1 := ⟨Try.prog.types.size - 1, (Nat.sub_add_cancel (of_decide_eq_true (by kernel_rfl))).symm⟩
def mpR : MpK Try.prog Int Unit := mpSet 94 43 115 .u32 Try.underlying94 Try.underlying43 (fun w => by kernel_rfl)
def mpP : MpK Try.prog (Int × Int) Unit := mpPairs 95 114 3 115 .i64 Try.underlying95 pair_arr Try.underlying3 pair_size pair_law (fun w => by kernel_rfl)
theorem i64_lit {a : Int} (h : I64 a) : (Lit.int .i64 a).wf = true := by unfold I64 at h; exact WalkArith.wf_i64 (by omega)
theorem u32_lit {a : Nat} (h : a < 4294967296) : (Lit.int .u32 (a : Int)).wf = true := WalkArith.wf_u32 (by omega)

namespace Vo
def isP (k : Int × Int) (q : Pc) : Bool := q.join && (q.left == k.1 && q.right == k.2)
def isR (r : Int) (q : Pc) : Bool := q.join && ((q.rank : Int) == r)
/-- Is there a join of that rank, of that pair? -/
def inR (D : List Pc) (r : Int) : Option Unit := if D.any (isR r) = true then some () else none
def inP (D : List Pc) (k : Int × Int) : Option Unit := if D.any (isP k) = true then some () else none
theorem inR_some (D : List Pc) (r : Int) : (inR D r).isSome = D.any (isR r) := by unfold inR; cases D.any (isR r) <;> rfl
theorem inP_some (D : List Pc) (k : Int × Int) : (inP D k).isSome = D.any (isP k) := by unfold inP; cases D.any (isP k) <;> rfl
theorem hasJoin_eq (D : List Pc) (p : Pc) : hasJoin D p = (D.any (isP (p.left, p.right)) || D.any (isR p.rank)) := by
  induction D with
  | nil => rfl
  | cons q r ih =>
    have ih' : hasJoin (q :: r) p = ((q.join && ((q.left == p.left && q.right == p.right) || q.rank == p.rank)) || hasJoin r p) := rfl
    rw [ih', ih, List.any_cons, List.any_cons]
    simp only [isP, isR]
    have e : (q.rank == p.rank) = ((q.rank : Int) == (p.rank : Int)) := by
      rw [Bool.eq_iff_iff, beq_iff_eq, beq_iff_eq]
      omega
    rw [e]
    cases hj : q.join <;> cases (q.left == p.left && q.right == p.right) <;> cases ((q.rank : Int) == (p.rank : Int)) <;> simp
theorem inR_byte {D : List Pc} {p : Pc} (hj : p.join = false) : inR (D ++ [p]) = inR D := by funext r; simp [inR, isR, hj]
theorem inP_byte {D : List Pc} {p : Pc} (hj : p.join = false) : inP (D ++ [p]) = inP D := by funext r; simp [inP, isP, hj]
theorem inR_join {D : List Pc} {p : Pc} (hj : p.join = true) : inR (D ++ [p]) = fun k => if k = (p.rank : Int) then some () else inR D k := by
  funext r
  simp only [inR, isR, List.any_append, List.any_cons, List.any_nil, hj, Bool.true_and, Bool.or_false]
  by_cases h : (p.rank : Int) = r
  · simp [h]
  · simp [h, Ne.symm h]
theorem inP_join {D : List Pc} {p : Pc} (hj : p.join = true) : inP (D ++ [p]) = fun k => if k = (p.left, p.right) then some () else inP D k := by
  funext r
  obtain ⟨a, b⟩ := r
  simp only [inP, isP, List.any_append, List.any_cons, List.any_nil, hj, Bool.true_and, Bool.or_false]
  by_cases h : (a, b) = (p.left, p.right)
  · have h2 := Prod.mk.inj h
    simp [h2.1, h2.2]
  · have : (p.left == a && p.right == b) = false := by
      rw [Bool.eq_false_iff]
      intro e
      simp at e
      exact h (by rw [e.1, e.2])
    rw [this, if_neg h]
    simp
end Vo

/-- The cells of a seen. -/
def seenC (bs : List Bool) (b1 b2 : Nat) (v : Value) : List Value := bs.map Value.bool ++ [.map (some b1), .map (some b2), v]
/-- A seen at block sb: which bytes there are, the maps of the ranks and of the pairs, the own list of sizes. -/
structure SeenQ (w : World) (sb base b1 b2 : Nat) (v : Value) (sz : List Int) (bs : List Bool) (n1 n2 : Nat) (f1 : Int → Option Unit) (f2 : Int × Int → Option Unit) : Prop where
  head : w.heap[sb]? = some (.cells (seenC bs b1 b2 v).toArray 98 (0, 0))
  len : bs.length = 256
  own : OwnL iK w base v sz
  ranks : IsMp mpR w b1 n1 f1
  pairs : IsMp mpP w b2 n2 f2
  apart : v.ownBlock ≠ some sb
  d12 : b1 ≠ b2
  low0 : base ≤ sb
  low1 : base ≤ b1
  low2 : base ≤ b2

section
variable {w w' : World} {sb base b1 b2 n1 n2 : Nat} {v v' : Value} {sz sz' : List Int} {bs : List Bool} {f1 : Int → Option Unit} {f2 : Int × Int → Option Unit}
theorem mp_list {κ β α : Type} {P : Program} {K : MpK P κ β} {E : El P α} {w : World} {b n base : Nat} {f : κ → Option β} {v : Value} {l : List α} (h : IsMp K w b n f) (ho : OwnL E w base v l) : v.ownBlock ≠ some b := fun e => by
  obtain ⟨D, ⟨es, clock, h1, _⟩, _⟩ := h
  rcases ho.2 with ⟨rfl, _⟩ | ⟨g', c, rfl, _, _, _, hh⟩
  · cases e
  · have e : g' = b := Option.some.inj e
    subst e
    rw [hh] at h1
    cases h1
theorem mp_row {κ β : Type} {P : Program} {K : MpK P κ β} {w : World} {b n s : Nat} {f : κ → Option β} {cs : Array Value} {t : TypeId} {fr : Nat × Nat} (h : IsMp K w b n f) (hs : w.heap[s]? = some (.cells cs t fr)) : b ≠ s := fun e => by
  obtain ⟨D, ⟨es, clock, h1, _⟩, _⟩ := h
  subst e
  rw [hs] at h1
  cases h1
theorem SeenQ.bool_ (h : SeenQ w sb base b1 b2 v sz bs n1 n2 f1 f2) {b : Nat} {t : Bool} (hb : bs[b]? = some t) : w.cell? ⟨sb, b, none⟩ = some (.bool t) := by
  have hlt := (List.getElem?_eq_some_iff.1 hb).1
  rw [cell_of_row _ sb b _ _ _ h.head, List.getElem?_toArray, seenC, List.getElem?_append_left (by simpa using hlt), List.getElem?_map, hb]; rfl
theorem seen_tail (bs : List Bool) (hl : bs.length = 256) (b1 b2 : Nat) (v : Value) (j : Nat) : (seenC bs b1 b2 v).toArray[256 + j]? = [Value.map (some b1), .map (some b2), v][j]? := by
  rw [List.getElem?_toArray, seenC, List.getElem?_append_right (by simp [hl])]
  simp [hl]
theorem SeenQ.rank_ (h : SeenQ w sb base b1 b2 v sz bs n1 n2 f1 f2) : w.cell? ⟨sb, 256, none⟩ = some (.map (some b1)) := by
  rw [cell_of_row _ sb 256 _ _ _ h.head, seen_tail bs h.len b1 b2 v 0]; rfl
theorem SeenQ.pair_ (h : SeenQ w sb base b1 b2 v sz bs n1 n2 f1 f2) : w.cell? ⟨sb, 257, none⟩ = some (.map (some b2)) := by
  rw [cell_of_row _ sb 257 _ _ _ h.head, seen_tail bs h.len b1 b2 v 1]; rfl
theorem SeenQ.slice_ (h : SeenQ w sb base b1 b2 v sz bs n1 n2 f1 f2) : w.cell? ⟨sb, 258, none⟩ = some v := by
  rw [cell_of_row _ sb 258 _ _ _ h.head, seen_tail bs h.len b1 b2 v 2]; rfl
theorem SeenQ.cool_ (h : SeenQ w sb base b1 b2 v sz bs n1 n2 f1 f2) (j : Nat) : w.frozen? ⟨sb, j, none⟩ = false := frozen_of_row w sb j _ _ h.head
theorem SeenQ.lt_ (h : SeenQ w sb base b1 b2 v sz bs n1 n2 f1 f2) : sb < w.heap.size := (Array.getElem?_eq_some_iff.1 h.head).1
/-- The same in a world in which its blocks are as they were. -/
theorem SeenQ.to_ (h : SeenQ w sb base b1 b2 v sz bs n1 n2 f1 f2) (he : ∀ k, k < w.heap.size → w'.heap[k]? = w.heap[k]?) : SeenQ w' sb base b1 b2 v sz bs n1 n2 f1 f2 :=
  ⟨(he sb h.lt_).trans h.head, h.len, h.own.of_block (fun k hk => he k (h.own.lt_ k hk).2), h.ranks.of_block (he b1 h.ranks.lt_), h.pairs.of_block (he b2 h.pairs.lt_), h.apart, h.d12, h.low0, h.low1, h.low2⟩
theorem SeenQ.below_ (h : SeenQ w sb base b1 b2 v sz bs n1 n2 f1 f2) (hb : Below w.heap.size w w') : SeenQ w' sb base b1 b2 v sz bs n1 n2 f1 f2 := h.to_ (fun k hk => hb.block k hk)
theorem SeenQ.alloc_ (h : SeenQ w sb base b1 b2 v sz bs n1 n2 f1 f2) (o : Obj) : SeenQ (w.alloc o) sb base b1 b2 v sz bs n1 n2 f1 f2 := h.to_ (fun k hk => heap_alloc_old w o hk)
theorem SeenQ.drewN_ (h : SeenQ w sb base b1 b2 v sz bs n1 n2 f1 f2) (n : Nat) : SeenQ (w.drewN n) sb base b1 b2 v sz bs n1 n2 f1 f2 := h.to_ (fun _ _ => rfl)
theorem SeenQ.drew_ (h : SeenQ w sb base b1 b2 v sz bs n1 n2 f1 f2) : SeenQ w.drew sb base b1 b2 v sz bs n1 n2 f1 f2 := h.to_ (fun _ _ => rfl)
theorem seenC_bool (bs : List Bool) (b1 b2 : Nat) (v : Value) {b : Nat} (hb : b < bs.length) (t : Bool) : (seenC bs b1 b2 v).set b (.bool t) = seenC (bs.set b t) b1 b2 v := by
  unfold seenC
  rw [List.set_append_left _ _ (by simpa using hb), ← List.map_set]
theorem seenC_slice (bs : List Bool) (hl : bs.length = 256) (b1 b2 : Nat) (v v' : Value) : (seenC bs b1 b2 v).set 258 v' = seenC bs b1 b2 v' := by
  unfold seenC
  rw [List.set_append_right _ _ (by simp [hl])]
  simp [hl]
/-- A cell of its own block is set: its list and its maps are as they were. -/
theorem SeenQ.setBool_ (h : SeenQ w sb base b1 b2 v sz bs n1 n2 f1 f2) {b : Nat} (hb : b < 256) (t : Bool) : SeenQ (w.setCell ⟨sb, b, none⟩ (.bool t)) sb base b1 b2 v sz (bs.set b t) n1 n2 f1 f2 := by
  have ho : ∀ k, k ≠ sb → (w.setCell ⟨sb, b, none⟩ (.bool t)).heap[k]? = w.heap[k]? := fun k hk => heap_setCell_other w ⟨sb, b, none⟩ k _ hk
  refine ⟨?_, by rw [List.length_set]; exact h.len, h.own.of_block (fun k hk => ho k (fun e => h.apart (by rw [hk, e]))), h.ranks.of_block (ho b1 (mp_row h.ranks h.head)), h.pairs.of_block (ho b2 (mp_row h.pairs h.head)), h.apart, h.d12, h.low0, h.low1, h.low2⟩
  rw [heap_setCell_same w sb _ _ _ _ h.head, ← seenC_bool bs b1 b2 v (by rw [h.len]; exact hb) t]
  simp
/-- What append turned leaves the seen's own block. -/
theorem SeenQ.grown_ (h : SeenQ w sb base b1 b2 v sz bs n1 n2 f1 f2) (hg : w.grownBy w' v.ownBlock) : w'.cell? ⟨sb, 258, none⟩ = some v ∧ w'.frozen? ⟨sb, 258, none⟩ = false := by
  have hh := (hg.block sb h.lt_ (fun e => h.apart e.symm)).trans h.head
  exact ⟨by rw [cell_of_row _ sb 258 _ _ _ hh, seen_tail bs h.len b1 b2 v 2]; rfl, frozen_of_row w' sb 258 _ _ hh⟩
/-- The list of sizes is had anew. -/
theorem SeenQ.setSlice_ (h : SeenQ w sb base b1 b2 v sz bs n1 n2 f1 f2) (hg : w.grownBy w' v.ownBlock) (ho : OwnL iK w' base v' sz') (hm : Moved w v v') : SeenQ (w'.setCell ⟨sb, 258, none⟩ v') sb base b1 b2 v' sz' bs n1 n2 f1 f2 := by
  have hap : v'.ownBlock ≠ some sb := fun e => by
    rcases hm sb e with h1 | h1
    · exact h.apart h1
    · have := h.lt_; omega
  have hh := (hg.block sb h.lt_ (fun e => h.apart e.symm)).trans h.head
  have hs : ∀ k, k ≠ sb → (w'.setCell ⟨sb, 258, none⟩ v').heap[k]? = w'.heap[k]? := fun k hk => heap_setCell_other w' ⟨sb, 258, none⟩ k _ hk
  refine ⟨?_, h.len, ho.of_block (fun k hk => hs k (fun e => hap (by rw [hk, e]))), ?_, ?_, hap, h.d12, h.low0, h.low1, h.low2⟩
  · rw [heap_setCell_same w' sb 258 _ _ _ hh, ← seenC_slice bs h.len b1 b2 v v']
    simp
  · exact h.ranks.of_block ((hs b1 (mp_row h.ranks h.head)).trans (hg.block b1 h.ranks.lt_ (fun e => mp_list h.ranks h.own e.symm)))
  · exact h.pairs.of_block ((hs b2 (mp_row h.pairs h.head)).trans (hg.block b2 h.pairs.lt_ (fun e => mp_list h.pairs h.own e.symm)))
end
/-- A seen behind the pieces D. -/
def SeenD (w : World) (sb base : Nat) (D : List Vo.Pc) : Prop := ∃ b1 b2 v, SeenQ w sb base b1 b2 v (Vo.sizes D) (Vo.bits D) D.length D.length (Vo.inR D) (Vo.inP D)
theorem SeenD.to_ {w w' : World} {sb base : Nat} {D : List Vo.Pc} (h : SeenD w sb base D) (hb : Below w.heap.size w w') : SeenD w' sb base D := by
  obtain ⟨b1, b2, v, h⟩ := h
  exact ⟨b1, b2, v, h.below_ hb⟩
theorem SeenD.lt_ {w : World} {sb base : Nat} {D : List Vo.Pc} (h : SeenD w sb base D) : sb < w.heap.size := by
  obtain ⟨b1, b2, v, h⟩ := h
  exact h.lt_
/-- What add, addByte and addJoin answer. -/
def IsAdd (sb base : Nat) (D : List Vo.Pc) (p : Vo.Pc) (w : World) (e : Ending) (w' : World) : Prop :=
  e = .returned (.int .i64 (Vo.errAt D p : Nat)) ∧ (Vo.errAt D p = 0 → SeenD w' sb base (D ++ [p])) ∧ Below base w w'
theorem IsAdd.bad {sb base : Nat} {D : List Vo.Pc} {p : Vo.Pc} {w w' : World} {x : Int} {n : Nat} (h : Vo.errAt D p = n) (hn : n ≠ 0) (hx : x = (n : Int)) (hb : Below base w w') : IsAdd sb base D p w (.returned (.int .i64 x)) w' := by
  subst hx
  exact ⟨by rw [h], fun e => absurd (h.symm.trans e) hn, hb⟩
end Go.Proofs.Ytglkhgchbnkekaa
