/-
  PgD: page.Put.
  PgE: slices.Clone of bytes; page.Get.
  PgF: page.Get.
-/
import Derived.Test.YtoefogmjekcbeaaPk14
import Derived.Test.YtoefogmjekcbeaaPk08
import Derived.Test.YtoefogmjekcbeaaPk09
import Derived.Deep.RegionHeld3
import Derived.Test.YtoefogmjekcbeaaPk10
import Derived.Test.YtoefogmjekcbeaaPk07
namespace Go.Proofs.Ytoefogmjekcbeaa
open Go.RowKit
set_option linter.unusedVariables false
theorem drop4 (l : List Nat) : ([0, 0, 0, 0] ++ l).drop 4 = l := rfl
theorem page_pu (n k : Nat) (b : List Nat) : pu ([0, 0, 0, 0] ++ Pg.rest n k b) 0 (four (Cr.of (([0, 0, 0, 0] ++ Pg.rest n k b).drop 4))) = Pg.page n k b := by
  rw [pu_front (by rfl), drop4]; rfl
set_option maxHeartbeats 2000000 in
set_option maxRecDepth 100000 in
theorem ppgput_any (n : Int) (k : Nat) (v : Value) (b : List Nat) (B : Nat) (w : World) (hk : k < 256) (hv : Lv yK w B v b) (hB : B ≤ w.heap.size) :
    Calls Try.prog 18 #[.int .i64 n, .int .u8 (k : Nat), v] w (IsVE (Pg.putE n k b) w) := by
  have HM := Lib.hid (pmaybe_any n w)
  by_cases h0 : n < 0 ∨ 65536 ≤ n
  · have HE := Lib.hid (Pg.putE_arg (k := k) (b := b) h0)
    have hd : decide (0 ≤ n ∧ n < 65536) = false := decide_eq_false (by omega)
    rw [hd] at HM
    clear hd h0 hv
    go_enter Try.func18, Try.ntmps18
    go_wp2_with fail
    refine HM.out.mono ?_
    rintro e w1 ⟨rfl, rfl⟩
    go_wp2
    go_ret2
    exact IsVE.none_b HE.out rfl (Below.refl _ _)
  have hd : decide (0 ≤ n ∧ n < 65536) = true := decide_eq_true (by omega)
  rw [hd] at HM
  by_cases h2 : 496 < b.length
  · have HE := Lib.hid (Pg.putE_lim (n := n) (k := k) (b := b) (by omega) h2)
    have h2i : (496 : Int) < (b.length : Int) := by omega
    obtain ⟨A, c, rfl, k1, k2, -, -, -⟩ := hv
    have hll : b.length ≤ 9223372036854775807 := by simp only [maxLen] at k2; omega
    clear h2 hd h0 k1 k2
    go_enter Try.func18, Try.ntmps18
    go_wp2_with fail
    refine HM.out.mono ?_
    rintro e w1 ⟨rfl, rfl⟩
    go_wp2
    go_ret2
    exact IsVE.none_b HE.out rfl (Below.refl _ _)
  have HE := Lib.hid (Pg.putE_ok (n := n) (k := k) (b := b) (by omega) h2)
  obtain ⟨N, rfl⟩ := Int.eq_ofNat_of_zero_le (show 0 ≤ n by omega)
  rw [Int.toNat_natCast] at HE
  have hN : N < 65536 := by omega
  have hb8 : ∀ x ∈ b, x < 256 := fun x hx => hv.ok_ x hx
  have HU := Lib.hid (punsummed_any N k v b B w hN hk hv hB (by omega))
  have HP := page_pu N k b
  have hr8 : ∀ x ∈ [0, 0, 0, 0] ++ Pg.rest N k b, x < 256 := fun x hx => by
    rcases List.mem_append.1 hx with h | h
    · simp at h; omega
    · exact Pg.rest_lt hk hb8 x h
  have hrl : ([0, 0, 0, 0] ++ Pg.rest N k b).length = 512 := by rw [List.length_append, Pg.rest_len (by omega)]; rfl
  obtain ⟨R, hR⟩ : ∃ R, [0, 0, 0, 0] ++ Pg.rest N k b = R := ⟨_, rfl⟩
  rw [hR] at HU HP hr8 hrl
  have HS : Hid (∀ w, Calls Try.prog 31 #[.agg (bvs R)] w (fun e w' => e = .returned (.agg (bvs (four (Cr.of (R.drop 4))))) ∧ Below w.heap.size w w')) := fun w => pgsum_any R hrl hr8 w
  have HT : Hid (∀ w, Calls Try.prog 30 #[.agg (bvs R), .agg (bvs (four (Cr.of (R.drop 4))))] w (fun e w' => e = .returned (.agg (bvs (Pg.page N k b))) ∧ Below w.heap.size w w')) := fun w => by
    have h := psummed_any R (four (Cr.of (R.drop 4))) hrl rfl (four_lt _) w
    rwa [HP] at h
  have hpl : (Pg.page N k b).length = 512 := Pg.page_len (by omega)
  have HP8 : Hid (∀ x ∈ Pg.page N k b, x < 256) := Pg.page_lt hk hb8
  have HPL := Lib.hid hpl
  have HFR : Hid ((bvs R).size = 512) := by unfold Hid; rw [bvs_size, hrl]
  have HSR := Lib.hid (size512l hrl)
  have HOR := Lib.hid (bvs_one R)
  have HSP := Lib.hid (size512l hpl)
  have HOP := Lib.hid (bvs_one (Pg.page N k b))
  have HLP : Hid ((bvs (Pg.page N k b)).size = 512) := by unfold Hid; rw [bvs_size, hpl]
  obtain ⟨P, hP⟩ : ∃ P, Pg.page N k b = P := ⟨_, rfl⟩
  obtain ⟨F, hF⟩ : ∃ F, bvs R = F := ⟨_, rfl⟩
  obtain ⟨C, hC⟩ : ∃ F, bvs P = F := ⟨_, rfl⟩
  obtain ⟨S4, hS4⟩ : ∃ F, bvs (four (Cr.of (R.drop 4))) = F := ⟨_, rfl⟩
  rw [hS4] at HS HT
  rw [hF] at HU HS HT HFR HSR HOR
  rw [hP] at HE HT HP8 HPL HSP HOP HLP
  rw [hC] at HT HSP HOP HLP
  have HC := Lib.hid hC
  have hz := zero512V
  have HNS := Lib.hid none512_size
  obtain ⟨Z, hZ⟩ : ∃ Z, none512 = Z := ⟨_, rfl⟩
  rw [hZ] at hz HNS
  have h2i : ¬ (496 : Int) < (b.length : Int) := by omega
  obtain ⟨A, c, rfl, k1, k2, -, -, -⟩ := hv
  have hll : b.length ≤ 9223372036854775807 := by omega
  clear h2 hd h0 k1 k2 hR hr8 hrl hP hF hC hS4 hZ hpl hb8 HP hk hB hN
  go_enter Try.func18, Try.ntmps18
  go_wp2_with fail
  refine HM.out.mono ?_
  rintro e w1 ⟨rfl, rfl⟩
  go_wp2_with fail
  refine HU.out.mono ?_
  rintro e w2 ⟨rfl, b2⟩
  have HB2 := Lib.hid b2
  clear b2 HU HM
  go_wp2_with (refine wpList_store_row rfl _ _ _ rfl w2.heap.size F rfl rfl 50 _ (heap_alloc_new w2 _) HSR.out (by rw [HNS.out, HFR.out]) HOR.out ?_
               rw [World.setRow_alloc_new])
  generalize hX : w2.alloc (.cells F 50) = X
  have HX0 : Hid (Rw X w2.heap.size 50 F) := by unfold Hid; rw [← hX]; exact Rw.new _ _ _
  have HBX : Hid (Below w1.heap.size w1 X) := by unfold Hid; rw [← hX]; exact HB2.out.alloc HB2.out.size _
  have HZ2 : Hid (w1.heap.size ≤ w2.heap.size) := HB2.out.size
  clear hX HB2 hz
  have hS0 : Rw X.drew w2.heap.size 50 F ∧ Below w1.heap.size w1 X.drew := ⟨HX0.out.drew, HBX.out.drew⟩
  refine wp_region_m (fun w' => Rw w' w2.heap.size 50 F ∧ Below w1.heap.size w1 w') 4 (by kernel_rfl) ?_
  refine wpAnyM_take (i := 0) (v := .agg F) rfl (by kernel_rfl) (by kernel_rfl) (by kernel_rfl) (by kernel_rfl) (fun _ _ _ h => h) hS0 (Or.inl ⟨by rfl, fun w' hSw => exec_load_row _ _ rfl w2.heap.size rfl 50 F (0, 0) _ w' hSw.1 Try.underlying50 rfl HSR.out⟩) ?_
  try simp only [Act.put, List.getElem_toArray, List.getElem_cons_zero, List.setIfInBounds_toArray, List.set_cons_zero, List.set_cons_succ]
  refine wpAnyM_take (i := 1) (v := .agg F) rfl (by kernel_rfl) (by kernel_rfl) (by kernel_rfl) (by kernel_rfl) (fun _ _ _ h => h) hS0 (Or.inl ⟨by rfl, fun w' hSw => exec_load_row _ _ rfl w2.heap.size rfl 50 F (0, 0) _ w' hSw.1 Try.underlying50 rfl HSR.out⟩) ?_
  try simp only [Act.put, List.getElem_toArray, List.getElem_cons_succ, List.getElem_cons_zero, List.setIfInBounds_toArray, List.set_cons_zero, List.set_cons_succ]
  refine wpAnyM_next (i := 2) (by kernel_rfl) rfl (fun K hK => ?_)
  go_simp
  refine (HS.out X.drew).mono ?_
  rintro e x1 ⟨rfl, b3⟩
  have hS1 : Rw x1 w2.heap.size 50 F ∧ Below w1.heap.size w1 x1 := ⟨hS0.1.below b3 hS0.1.lt, hS0.2.trans (b3.mono hS0.2.size)⟩
  refine hK.out _ _ (.inr hS1) ?_
  clear hK K hS0 b3
  try simp only [Act.put, List.getElem_toArray, List.getElem_cons_succ, List.getElem_cons_zero, List.setIfInBounds_toArray, List.set_cons_zero, List.set_cons_succ]
  refine wpAnyM_next (i := 3) (by kernel_rfl) rfl (fun K hK => ?_)
  go_simp
  refine (HT.out x1).mono ?_
  rintro e x2 ⟨rfl, b4⟩
  have hS2 : Rw x2 w2.heap.size 50 F ∧ Below w1.heap.size w1 x2 := ⟨hS1.1.below b4 hS1.1.lt, hS1.2.trans (b4.mono hS1.2.size)⟩
  refine hK.out _ _ (.inr hS2) ?_
  clear hK K hS1 b4
  try simp only [Act.put, List.getElem_toArray, List.getElem_cons_succ, List.getElem_cons_zero, List.setIfInBounds_toArray, List.set_cons_zero, List.set_cons_succ]
  refine wpAnyM_next (i := 4) (by kernel_rfl) rfl (fun K hK => ?_)
  rw [if_pos (by rfl)]
  refine wp_store_row 50 (.tmp 8) (.tmp 22) rfl w2.heap.size C rfl rfl 50 F hS2.1 HSP.out (by rw [HFR.out, HLP.out]) HOP.out ?_
  refine hK.out _ _ (.inl (Nat.le_refl _)) ?_
  clear hK K
  try simp only [Act.put, List.getElem_toArray, List.getElem_cons_succ, List.getElem_cons_zero]
  refine wpAnyM_done (by kernel_rfl) ?_ _
  have HRF : Hid (Rw (x2.setRow w2.heap.size C) w2.heap.size 50 C) := Rw.row hS2.1 C
  have HBF : Hid (Below w1.heap.size w1 (x2.setRow w2.heap.size C)) := below_setRow hS2.2 HZ2.out _
  generalize x2.setRow w2.heap.size C = x3 at *
  clear hS2 HX0 HBX HT HS
  go_wp2
  go_ret2
  refine IsVE.of HE.out HPL.out.symm rfl ⟨HP8.out, .inr ⟨w2.heap.size, 50, by rw [HPL.out], HZ2.out, by rw [HPL.out]; simp [maxLen], ?_⟩⟩ HBF.out
  rw [HC.out]
  exact HRF.out
end Go.Proofs.Ytoefogmjekcbeaa
namespace Go.Proofs.Ytoefogmjekcbeaa
open Go.RowKit
set_option linter.unusedVariables false
set_option maxHeartbeats 1000000 in
set_option maxRecDepth 100000 in
theorem psclone_any (v : Value) (l : List Nat) (B : Nat) (w : World) (h : Lv yK w B v l) (hB : B ≤ w.heap.size) (hsz : l.length ≤ 140737488355328) :
    Calls Try.prog 36 #[v] w (IsL1 yK l w) := by
  have H0 := Lib.hid h
  obtain ⟨A, c, rfl, h1, h2, h3, _⟩ := h
  cases A with
  | none =>
    have hc := h3 rfl
    have hl : l = [] := List.eq_nil_of_length_eq_zero (by omega)
    subst hl hc
    have hq := fun w => eql_nil_slice w none 0 0
    clear h1 h2 h3 hsz hB
    go_enter Try.func36, Try.ntmps36
    go_wp2
    go_ret
    exact ⟨none, 0, rfl, OwnL.nil_ _ _ _, Below.refl _ _⟩
  | some a =>
    have HN : Hid (OwnL yK (w.alloc (.cells #[] 5)) w.heap.size (.slice (some ⟨w.heap.size, 0, none⟩) 0 0) []) := ⟨by simp, .inr ⟨w.heap.size, [], rfl, Nat.le_refl _, by simp, by simp [maxLen], heap_alloc_new w _⟩⟩
    have H1 := Lib.hid (H0.out.below_ ((Below.refl w.heap.size w).alloc (Nat.le_refl _) (.cells #[] 5)) hB)
    have hb : Below w.heap.size w (w.alloc (.cells #[] 5)) := (Below.refl _ _).alloc (Nat.le_refl _) _
    have HB := Lib.hid hb
    clear hb
    have hq := fun w => eql_nil_slice w (some a) l.length c
    go_enter Try.func36, Try.ntmps36
    go_wp2_with (at_builtin; go_must (refine wpList_append_l _ yK rfl _ _ rfl w.heap.size _ rfl [] HN.out _ rfl B l H1.out (by show _ * 1 ≤ _; simp; omega) (by simp only [maxLen, List.length_nil]; omega) (by simp) ?_; intro A3 c3 w1 hA hG))
    go_ret
    simp only [List.nil_append] at hA
    exact ⟨A3, c3, by simp, hA, HB.out.grown hG HB.out.size (fun k hk => by have e : w.heap.size = k := Option.some.inj hk; omega)⟩
set_option maxRecDepth 100000 in
theorem arr4c_at (a : Addr) (c : Nat) (w : World) : (Instr.arrayAt 53 (.slice (some a) 4 c)).run Try.prog w = .ok (.pointer (some a)) w := by
  simp [Instr.arrayAt, run_underlying Try.underlying53]
set_option maxRecDepth 100000 in
theorem arr512_at (a : Addr) (c : Nat) (w : World) : (Instr.arrayAt 50 (.slice (some a) 512 c)).run Try.prog w = .ok (.pointer (some a)) w := by
  simp [Instr.arrayAt, run_underlying Try.underlying50]
theorem equal4b {s t : List Nat} (hs : s.length = 4) (ht : t.length = 4) (hs8 : ∀ x ∈ s, x < 256) (ht8 : ∀ x ∈ t, x < 256) (w : World) :
    (Op.equalIn 10000 53 (.agg (bvs s)) (.agg (bvs t))).run Try.prog w = .ok (decide (s = t)) w := equal4 hs ht hs8 ht8 w
theorem equal512 {s t : List Nat} (hs : s.length = 512) (ht : t.length = 512) (hs8 : ∀ x ∈ s, x < 256) (ht8 : ∀ x ∈ t, x < 256) (w : World) :
    (Op.equalIn 10000 50 (.agg (bvs s)) (.agg (bvs t))).run Try.prog w = .ok (decide (s = t)) w := by
  have h := run_equalIn_bytes (P := Try.prog) w 9998 50 5 512 Try.underlying50 Try.underlying5 size_of5 (s.map UInt8.ofNat) (t.map UInt8.ofNat) (by simpa using hs) (by simpa using ht)
  rw [cells_u8 hs8, cells_u8 ht8, u8_inj hs8 ht8] at h
  exact h
theorem bv_range {w : World} {B b off n c : Nat} {l : List Nat} (h : Bv w B (.slice (some ⟨b, off, none⟩) n c) l) (h0 : 0 < l.length) : w.rangeAt b off (bvs l).toList := by
  obtain ⟨A, c', e, h1, h2, h3, hb⟩ := h
  injection e with e1 e2 e3
  subst e1
  obtain ⟨b', o', e, hlt, hc⟩ := hb.2 h0
  injection e with e
  injection e with e4 e5
  subst e4 e5
  intro j v hv
  have hv' : (l.map u8)[j]? = some v := hv
  rw [List.getElem?_map] at hv'
  cases hx : l[j]? with
  | none => rw [hx] at hv'; cases hv'
  | some x => rw [hx] at hv'; injection hv' with hv'; subst hv'; exact hc j x hx
theorem wpList_load_midA {P : Program} {ops : Array Oper} {rest : List Oper} {op : Oper} {a : Act} {w : World} {Q : Exit → Act → World → Prop} (hgd : op.guard = none) (ty : TypeId) (x : Operand) (ho : op.op = .load ty x)
    (b o : Nat) (hx : a.eval x = .pointer (some ⟨b, o, none⟩)) (cs : Array Value) (d : TypeDesc) (hc : w.rangeAt b o cs.toList)
    (hu : P.underlying ty = some d) (hd : d.isRow = true) (hi : (P.info? ty).map (·.size) = some cs.size)
    (h : wpList P ops Q rest (a.put op.dst (.agg cs)) w) : wpList P ops Q (op :: rest) a w :=
  wpList_load_mid hgd ty x ho b o hx cs.toList d hc hu hd (by simpa using hi) (by simpa using h)
theorem Pg.page_iff {n k : Nat} {b c S : List Nat} (hS : b.take 4 = S) (hC : S = four (Cr.of (b.drop 4))) : (b = S ++ Pg.rest n k c) ↔ Pg.page n k c = b := by
  have hl : S.length = 4 := by rw [hC]; rfl
  constructor
  · intro h
    have hd : b.drop 4 = Pg.rest n k c := by rw [h]; exact List.drop_left' hl
    rw [Pg.page, ← hd, ← hC, ← hS, List.take_append_drop]
  · intro h
    have hd : b.drop 4 = Pg.rest n k c := by rw [← h, Pg.page_drop]
    rw [← hd, ← hS, List.take_append_drop]
end Go.Proofs.Ytoefogmjekcbeaa
namespace Go.Proofs.Ytoefogmjekcbeaa
open Go.RowKit
set_option linter.unusedVariables false
set_option maxHeartbeats 4000000 in
set_option maxRecDepth 100000 in
theorem ppgget_any (n : Int) (v : Value) (b : List Nat) (B : Nat) (w : World) (hv : Lv yK w B v b) (hB : B ≤ w.heap.size) :
    Calls Try.prog 23 #[.int .i64 n, v] w (IsKL (Pg.getE n b) w) := by
  have HM := Lib.hid (pmaybe_any n w)
  have HV := Lib.hid hv
  have HBB := Lib.hid hB
  have hb8 : ∀ x ∈ b, x < 256 := fun x hx => hv.ok_ x hx
  obtain ⟨A, c, rfl, k1, k2, -, -, hin⟩ := id hv
  have hll : b.length ≤ 9223372036854775807 := by simp only [maxLen] at k2; omega
  clear hB hv
  by_cases h0 : n < 0 ∨ 65536 ≤ n
  · have HE := Lib.hid (Pg.getE_arg (b := b) h0)
    have hd : decide (0 ≤ n ∧ n < 65536) = false := decide_eq_false (by omega)
    rw [hd] at HM
    clear hd h0 hin k1 k2
    go_enter Try.func23, Try.ntmps23
    go_wp2_with fail
    refine HM.out.mono ?_
    rintro e w1 ⟨rfl, rfl⟩
    go_wp2
    go_ret3
    exact IsKL.none_b HE.out rfl rfl (Below.refl _ _)
  have hd : decide (0 ≤ n ∧ n < 65536) = true := decide_eq_true (by omega)
  rw [hd] at HM
  by_cases h2 : b.length < 512
  · have HE := Lib.hid (Pg.getE_short h0 h2)
    have hi : (b.length : Int) < 512 := by omega
    clear hin k1 k2 h2 hd h0
    go_enter Try.func23, Try.ntmps23
    go_wp2_with fail
    refine HM.out.mono ?_
    rintro e w1 ⟨rfl, rfl⟩
    go_wp2
    go_ret3
    exact IsKL.none_b HE.out rfl rfl (Below.refl _ _)
  by_cases h3 : 512 < b.length
  · have HE := Lib.hid (Pg.getE_long h0 h2 h3)
    have hi : ¬ (b.length : Int) < 512 := by omega
    have hj : (512 : Int) < (b.length : Int) := by omega
    clear hin k1 k2 h2 h3 hd h0
    go_enter Try.func23, Try.ntmps23
    go_wp2_with fail
    refine HM.out.mono ?_
    rintro e w1 ⟨rfl, rfl⟩
    go_wp2
    go_ret3
    exact IsKL.none_b HE.out rfl rfl (Below.refl _ _)
  obtain ⟨bb, off, rfl, hbl, -⟩ := hin (by omega)
  have hlen : b.length = 512 := by omega
  have HL := Lib.hid hlen
  obtain ⟨N, rfl⟩ := Int.eq_ofNat_of_zero_le (show 0 ≤ n by omega)
  have hN : N < 65536 := by omega
  rw [hlen] at HV ⊢
  have hrg := bv_range HV.out.bv_ (by omega)
  have HG := Lib.hid h0
  have H2 : Hid (¬ b.length < 512 ∧ ¬ 512 < b.length) := ⟨h2, h3⟩
  have H8 := Lib.hid hb8
  obtain ⟨S, hS⟩ : ∃ S, four (Cr.of (b.drop 4)) = S := ⟨_, rfl⟩
  have HSL : Hid (S.length = 4) := by unfold Hid; rw [← hS]; rfl
  have HS8 : Hid (∀ x ∈ S, x < 256) := by unfold Hid; rw [← hS]; exact four_lt _
  have HSE := Lib.hid hS
  have HSM : Hid (∀ w, Calls Try.prog 31 #[.agg (bvs b)] w (fun e w' => e = .returned (.agg (bvs S)) ∧ Below w.heap.size w w')) := fun w => by rw [← hS]; exact pgsum_any b hlen hb8 w
  have HSZ : Hid (∀ w, Calls Try.prog 35 #[.agg (bvs b)] w (fun e w' => e = .returned (.int .i64 (Pg.size b : Nat)) ∧ Below w.heap.size w w')) := fun w => psize_any b hlen hb8 w
  have ht4l : (b.take 4).length = 4 := by rw [List.length_take]; omega
  have ht48 : ∀ x ∈ b.take 4, x < 256 := fun x hx => hb8 x (List.mem_of_mem_take hx)
  obtain ⟨q, hq⟩ : ∃ q, decide (b.take 4 = S) = q := ⟨_, rfl⟩
  have heq : ∀ w, (Op.equalIn 10000 53 (.agg (bvs (b.take 4))) (.agg (bvs S))).run Try.prog w = .ok q w := fun w => by rw [← hq]; exact equal4b ht4l HSL.out ht48 HS8.out w
  have HQ := Lib.hid hq
  have HC4 := Lib.hid (size4l ht4l)
  have HCS := Lib.hid (size4l HSL.out)
  have HOS := Lib.hid (bvs_one S)
  have HCB := Lib.hid (size512l hlen)
  have HOB := Lib.hid (bvs_one b)
  have HZL : Hid (none512.size = (bvs b).size) := by unfold Hid; rw [none512_size, bvs_size, hlen]
  have HNS := Lib.hid none512_size
  have hz := zero512V
  obtain ⟨Z, hZ⟩ : ∃ Z, none512 = Z := ⟨_, rfl⟩
  rw [hZ] at hz HNS HZL
  obtain ⟨D, hD⟩ : ∃ D, bvs b = D := ⟨_, rfl⟩
  obtain ⟨T, hT⟩ : ∃ D, bvs (b.take 4) = D := ⟨_, rfl⟩
  obtain ⟨E, hE⟩ : ∃ D, bvs S = D := ⟨_, rfl⟩
  have HDE := Lib.hid hD
  have HTE := Lib.hid hT
  have HEE := Lib.hid hE
  rw [hD] at hrg HSM HSZ HCB HOB HZL
  rw [hE] at HSM heq HCS HOS
  rw [hT] at heq HC4
  have hZE : Hid ((#[.int .u8 0, .int .u8 0, .int .u8 0, .int .u8 0] : Array Value).size = E.size) := by unfold Hid; rw [← hE, bvs_size, HSL.out]; rfl
  have har := fun w => arr512_at ⟨bb, off, none⟩ c w
  have h2i : ¬ (512 : Int) < 512 := by omega
  have hcm : (512 : Int) ≤ (c : Int) := by omega
  have HBL := Lib.hid hbl
  clear k1 k2 h2 h3 hb8 hlen hS hq hZ hD hT hE ht4l ht48 hll hd h0 hbl
  go_enter Try.func23, Try.ntmps23
  go_wp2_with fail
  refine HM.out.mono ?_
  rintro e w1 ⟨rfl, rfl⟩
  go_wp2_with (first
    | (refine wpList_load_midA rfl 50 _ rfl bb off rfl D _ hrg Try.underlying50 rfl HCB.out ?_)
    | (refine wpList_store_row rfl _ _ _ rfl w1.heap.size D rfl rfl 50 _ (heap_alloc_new w1 _) HCB.out HZL.out HOB.out ?_
       rw [World.setRow_alloc_new])
    | (refine wpList_load_row rfl _ _ rfl w1.heap.size rfl 50 D (0, 0) _ (heap_alloc_new w1 _) Try.underlying50 rfl HCB.out ?_))
  generalize hX : w1.alloc (.cells D 50) = X
  have HX0 : Hid (Rw X w1.heap.size 50 D) := by unfold Hid; rw [← hX]; exact Rw.new _ _ _
  have HBX : Hid (Below w1.heap.size w1 X) := by unfold Hid; rw [← hX]; exact (Below.refl _ _).alloc (Nat.le_refl _) _
  clear hX hrg hz HM har
  refine (HSM.out X).mono ?_
  rintro e w2 ⟨rfl, b2⟩
  have HD2 : Hid (Rw w2 w1.heap.size 50 D) := HX0.out.below b2 HX0.out.lt
  have HB2 : Hid (Below w1.heap.size w1 w2) := HBX.out.trans (b2.mono HBX.out.size)
  clear b2 HX0 HBX HSM
  go_wp2_with (refine wpList_store_row rfl _ _ _ rfl w2.heap.size E rfl rfl 53 _ (heap_alloc_new w2 _) HCS.out hZE.out HOS.out ?_
               rw [World.setRow_alloc_new])
  generalize hY : w2.alloc (.cells E 53) = Y
  have HDY : Hid (Rw Y w1.heap.size 50 D) := by unfold Hid; rw [← hY]; exact HD2.out.old _
  have HEY : Hid (Rw Y w2.heap.size 53 E) := by unfold Hid; rw [← hY]; exact Rw.new _ _ _
  have HBY : Hid (Below w1.heap.size w1 Y) := by unfold Hid; rw [← hY]; exact HB2.out.alloc HB2.out.size _
  clear hY HD2
  have HRT : Hid (∀ w' g, Rw w' g 50 D → w'.rangeAt g 0 T.toList) := fun w' g h => by
    rw [← HDE.out] at h
    have hl := HL.out
    have h2 := h.bv_ H8.out (k := 0) (m := 4) (c := 4) (B := g + 1) (by omega) (Nat.le_refl _) (by simp [maxLen]) (Nat.lt_succ_self _)
    rw [List.drop_zero] at h2
    rw [← HTE.out]
    exact bv_range h2 (by rw [List.length_take]; omega)
  have har := fun w => arr4c_at ⟨w1.heap.size, 0, none⟩ 512 w
  have hS0 : Rw Y.drew w1.heap.size 50 D ∧ Rw Y.drew w2.heap.size 53 E ∧ Below w1.heap.size w1 Y.drew := ⟨HDY.out.drew, HEY.out.drew, HBY.out.drew⟩
  refine wp_region_held_drew (S := fun w' => Rw w' w1.heap.size 50 D ∧ Rw w' w2.heap.size 53 E ∧ Below w1.heap.size w1 w') (by kernel_rfl) hS0 (fun hH => ?_)
  refine wpAnyH_take (i := 0) (v := ?_) rfl (by kernel_rfl) (by kernel_rfl) (by kernel_rfl) (fun _ _ _ h => h) (Or.inl ⟨by rfl, (by intro w' hSw; go_simp; first | done | with_reducible rfl)⟩) hH ?_
  try simp only [Act.put, List.getElem_toArray, List.getElem_cons_zero, List.setIfInBounds_toArray, List.set_cons_zero, List.set_cons_succ]
  refine wpAnyH_take (i := 1) (v := ?_) rfl (by kernel_rfl) (by kernel_rfl) (by kernel_rfl) (fun _ _ _ h => h) (Or.inl ⟨by rfl, (by intro w' hSw; go_simp; first | done | with_reducible rfl)⟩) hH ?_
  try simp only [Act.put, List.getElem_toArray, List.getElem_cons_succ, List.getElem_cons_zero, List.setIfInBounds_toArray, List.set_cons_zero, List.set_cons_succ]
  refine wpAnyH_take (i := 2) (v := .agg T) rfl (by kernel_rfl) (by kernel_rfl) (by kernel_rfl) (fun _ _ _ h => h) (Or.inl ⟨by rfl, fun w' hSw => exec_load_mid _ _ rfl w1.heap.size 0 rfl T _ w' (HRT.out w' _ hSw.1) Try.underlying53 rfl HC4.out⟩) hH ?_
  try simp only [Act.put, List.getElem_toArray, List.getElem_cons_succ, List.getElem_cons_zero, List.setIfInBounds_toArray, List.set_cons_zero, List.set_cons_succ]
  refine wpAnyH_take (i := 3) (v := .agg E) rfl (by kernel_rfl) (by kernel_rfl) (by kernel_rfl) (fun _ _ _ h => h) (Or.inl ⟨by rfl, fun w' hSw => exec_load_row _ _ rfl w2.heap.size rfl 53 E (0, 0) _ w' hSw.2.1 Try.underlying53 rfl HCS.out⟩) hH ?_
  try simp only [Act.put, List.getElem_toArray, List.getElem_cons_succ, List.getElem_cons_zero, List.setIfInBounds_toArray, List.set_cons_zero, List.set_cons_succ]
  refine wpAnyH_take (i := 4) (v := ?_) rfl (by kernel_rfl) (by kernel_rfl) (by kernel_rfl) (fun _ _ _ h => h) (Or.inl ⟨by rfl, (by intro w' hSw; go_simp; first | done | with_reducible rfl)⟩) hH ?_
  try simp only [Act.put, List.getElem_toArray, List.getElem_cons_succ, List.getElem_cons_zero, List.setIfInBounds_toArray, List.set_cons_zero, List.set_cons_succ]
  refine wpAnyH_done (by kernel_rfl) ?_ _
  clear hH har heq HRT HTE HC4
  obtain ⟨hV1, hV2, hV3⟩ := hS0
  generalize Y.drew = V at *
  have HDV := Lib.hid hV1
  have HEV := Lib.hid hV2
  have HBV := Lib.hid hV3
  clear hV1 hV2 hV3 HDY HEY HBY hin
  cases q with
  | false =>
    have HE : Hid (Pg.getE (N : Int) b = (0, [], 6)) := Pg.getE_sum HG.out H2.out.1 H2.out.2 (by rw [HSE.out]; exact of_decide_eq_false HQ.out)
    go_wp2
    go_ret3
    exact IsKL.none_b HE.out rfl rfl HBV.out
  | true =>
    have HTS : Hid (b.take 4 = S) := by unfold Hid; exact of_decide_eq_true HQ.out
    have H3 : Hid (b.take 4 = four (Cr.of (b.drop 4))) := by unfold Hid; rw [HSE.out]; exact HTS.out
    obtain ⟨m, hm⟩ : ∃ m, Pg.size b = m := ⟨_, rfl⟩
    rw [hm] at HSZ
    have HSIZE := Lib.hid hm
    have hm2 : m < 65536 := by
      rw [← hm]
      have h10 : b.getD 10 0 < 256 := by
        rw [List.getD_eq_getElem?_getD]; cases hq : b[10]? with
        | none => simp
        | some y => exact H8.out y (List.mem_of_getElem? hq)
      have h11 : b.getD 11 0 < 256 := by
        rw [List.getD_eq_getElem?_getD]; cases hq : b[11]? with
        | none => simp
        | some y => exact H8.out y (List.mem_of_getElem? hq)
      unfold Pg.size; omega
    clear hm
    go_wp2_with (refine wpList_load_row rfl _ _ rfl w1.heap.size rfl 50 D (0, 0) _ HDV.out Try.underlying50 rfl HCB.out ?_)
    refine (HSZ.out V).mono ?_
    rintro e w3 ⟨rfl, b3⟩
    have HD3 : Hid (Rw w3 w1.heap.size 50 D) := HDV.out.below b3 HDV.out.lt
    have HE3 : Hid (Rw w3 w2.heap.size 53 E) := HEV.out.below b3 HEV.out.lt
    have HB3 : Hid (Below w1.heap.size w1 w3) := HBV.out.trans (b3.mono HBV.out.size)
    clear b3 HDV HEV HBV HSZ
    by_cases h4 : 496 < m
    · have h4i : (496 : Int) < (m : Int) := by omega
      have HE : Hid (Pg.getE (N : Int) b = (0, [], 5)) := Pg.getE_size HG.out H2.out.1 H2.out.2 H3.out (by rw [HSIZE.out]; exact h4)
      go_wp2
      go_ret3
      exact IsKL.none_b HE.out rfl rfl HB3.out
    · have h4i : ¬ (496 : Int) < (m : Int) := by omega
      have H4 : Hid (¬ 496 < Pg.size b) := by unfold Hid; rw [HSIZE.out]; exact h4
      have HM4 : Hid (m ≤ 496) := by unfold Hid; omega
      have hl := HL.out
      obtain ⟨x8, hx8⟩ : ∃ y, b[8]? = some y := ⟨_, List.getElem?_eq_getElem (by omega)⟩
      have HK8 : Hid (x8 < 256) := H8.out _ (List.mem_of_getElem? hx8)
      have HY8 : Hid (b.getD 8 0 = x8) := by unfold Hid; rw [List.getD_eq_getElem?_getD, hx8]; rfl
      have HC8 : Hid (∀ w', Rw w' w1.heap.size 50 D → w'.cell? ⟨w1.heap.size, 8, none⟩ = some (.int .u8 (x8 : Nat))) := fun w' h => by rw [← HDE.out] at h; exact h.byte hx8
      have hbd : (b.drop 12).take m = Pg.body b := by unfold Pg.body; rw [HSIZE.out]
      have hbl : (Pg.body b).length = m := by rw [← hbd, List.length_take, List.length_drop]; omega
      have hb8 : ∀ x ∈ Pg.body b, x < 256 := fun x hx => by rw [← hbd] at hx; exact H8.out x (List.mem_of_mem_drop (List.mem_of_mem_take hx))
      obtain ⟨y, hy⟩ : ∃ y, Pg.body b = y := ⟨_, rfl⟩
      rw [hy] at hbd hbl hb8
      have HYB := Lib.hid hy
      have HBL := Lib.hid hbl
      have HYL := Lib.hid hb8
      have HLV : Hid (∀ w', Rw w' w1.heap.size 50 D → Lv yK w' w'.heap.size (.slice (some ⟨w1.heap.size, 12, none⟩) m 500) y) := fun w' h => by
        rw [← HDE.out] at h
        have h2 := h.bv_ H8.out (k := 12) (m := m) (c := 500) (B := w'.heap.size) (by omega) (by omega) (by simp [maxLen]) h.lt
        rw [hbd] at h2
        exact h2.lv_
      have w4 : IntKind.i64.wrap (12 + (m : Int)) = 12 + (m : Int) := by rw [IntKind.wrap_i64]; omega
      have w5 : (12 : Int) ≤ 12 + (m : Int) := by omega
      have w6 : 12 + (m : Int) ≤ 512 := by omega
      have w7 : (0 : Int) ≤ 12 + (m : Int) := by omega
      have w8 : (12 + (m : Int)).toNat = 12 + m := by omega
      clear hx8 hbd hbl hb8 hy hl h4 hm2
      go_wp2
      have hS0 : Rw w3.drew w1.heap.size 50 D ∧ Rw w3.drew w2.heap.size 53 E ∧ Below w1.heap.size w1 w3.drew := ⟨HD3.out.drew, HE3.out.drew, HB3.out.drew⟩
      refine wp_region_held_drew (S := fun w' => Rw w' w1.heap.size 50 D ∧ Rw w' w2.heap.size 53 E ∧ Below w1.heap.size w1 w') (by kernel_rfl) hS0 (fun hH => ?_)
      refine wpAnyH_take (i := 0) (v := ?_) rfl (by kernel_rfl) (by kernel_rfl) (by kernel_rfl) (fun _ _ _ h => h) (Or.inl ⟨by rfl, (by intro w' hSw; go_simp; first | done | with_reducible rfl)⟩) hH ?_
      try simp only [Act.put, List.getElem_toArray, List.getElem_cons_zero, List.setIfInBounds_toArray, List.set_cons_zero, List.set_cons_succ]
      refine wpAnyH_take (i := 1) (v := ?_) rfl (by kernel_rfl) (by kernel_rfl) (by kernel_rfl) (fun _ _ _ h => h) (Or.inl ⟨by rfl, (by intro w' hSw; have s1 := HC8.out w' hSw.1; go_simp; first | done | with_reducible rfl)⟩) hH ?_
      try simp only [Act.put, List.getElem_toArray, List.getElem_cons_succ, List.getElem_cons_zero, List.setIfInBounds_toArray, List.set_cons_zero, List.set_cons_succ]
      refine wpAnyH_take (i := 2) (v := ?_) rfl (by kernel_rfl) (by kernel_rfl) (by kernel_rfl) (fun _ _ _ h => h) (Or.inl ⟨by rfl, (by intro w' hSw; go_simp; first | done | with_reducible rfl)⟩) hH ?_
      try simp only [Act.put, List.getElem_toArray, List.getElem_cons_succ, List.getElem_cons_zero, List.setIfInBounds_toArray, List.set_cons_zero, List.set_cons_succ]
      refine wpAnyH_take (i := 3) (v := ?_) rfl (by kernel_rfl) (by kernel_rfl) (by kernel_rfl) (fun _ _ _ h => h) (Or.inl ⟨by rfl, (by intro w' hSw; go_simp; first | done | with_reducible rfl)⟩) hH ?_
      try simp only [Act.put, List.getElem_toArray, List.getElem_cons_succ, List.getElem_cons_zero, List.setIfInBounds_toArray, List.set_cons_zero, List.set_cons_succ]
      refine wpAnyH_take (i := 4) (v := ?_) rfl (by kernel_rfl) (by kernel_rfl) (by kernel_rfl) (fun _ _ _ h => h) (Or.inl ⟨by rfl, (by intro w' hSw; go_simp; first | done | with_reducible rfl)⟩) hH ?_
      try simp only [Act.put, List.getElem_toArray, List.getElem_cons_succ, List.getElem_cons_zero, List.setIfInBounds_toArray, List.set_cons_zero, List.set_cons_succ]
      have HCL := Lib.hid (psclone_any _ y _ w3.drew (HLV.out _ hS0.1) (Nat.le_refl _) (by rw [HBL.out]; have := HM4.out; omega))
      refine wpAnyH_ready (rs := [5]) (by kernel_rfl) (by simp) ?_
      refine AllReadyH.cons rfl (fun K hK => ?_) AllReadyH.nil
      go_simp
      refine HCL.out.mono ?_
      rintro e x1 ⟨A4, c4, rfl, o4, b4⟩
      have hS1 : Rw x1 w1.heap.size 50 D ∧ Rw x1 w2.heap.size 53 E ∧ Below w1.heap.size w1 x1 := ⟨hS0.1.below b4 hS0.1.lt, hS0.2.1.below b4 hS0.2.1.lt, hS0.2.2.trans (b4.mono hS0.2.2.size)⟩
      have HO4 : Hid (OwnL yK x1 w1.heap.size (.slice A4 y.length c4) y) := o4.mono_ hS0.2.2.size
      refine hK.out _ _ hS1 (fun hH => ?_)
      clear hK K hS0 b4 o4 HCL HD3 HE3 HB3 HLV HC8
      try simp only [Act.put, List.getElem_toArray, List.getElem_cons_succ, List.getElem_cons_zero, List.setIfInBounds_toArray, List.set_cons_zero, List.set_cons_succ]
      refine wpAnyH_take (i := 6) (v := ?_) rfl (by kernel_rfl) (by kernel_rfl) (by kernel_rfl) (fun _ _ _ h => h) (Or.inl ⟨by rfl, (by intro w' hSw; go_simp; first | done | with_reducible rfl)⟩) hH ?_
      try simp only [Act.put, List.getElem_toArray, List.getElem_cons_succ, List.getElem_cons_zero, List.setIfInBounds_toArray, List.set_cons_zero, List.set_cons_succ]
      refine wpAnyH_take (i := 7) (v := ?_) rfl (by kernel_rfl) (by kernel_rfl) (by kernel_rfl) (fun _ _ _ h => h) (Or.inl ⟨by rfl, (by intro w' hSw; go_simp; first | done | with_reducible rfl)⟩) hH ?_
      try simp only [Act.put, List.getElem_toArray, List.getElem_cons_succ, List.getElem_cons_zero, List.setIfInBounds_toArray, List.set_cons_zero, List.set_cons_succ]
      refine wpAnyH_done (by kernel_rfl) ?_ _
      clear hH w4 w5 w6 w7 w8
      have hyl : y.length ≤ 496 := by rw [HBL.out]; exact HM4.out
      have HU := Lib.hid (punsummed_any N x8 _ y x1.heap.size x1.drew hN HK8.out (HO4.out.form_.drew_) (Nat.le_refl _) hyl)
      have hrl : ([0, 0, 0, 0] ++ Pg.rest N x8 y).length = 512 := by rw [List.length_append, Pg.rest_len hyl]; rfl
      have hr8 : ∀ x ∈ Pg.rest N x8 y, x < 256 := Pg.rest_lt HK8.out HYL.out
      have HSD : Hid (∀ w, Calls Try.prog 30 #[.agg (bvs ([0, 0, 0, 0] ++ Pg.rest N x8 y)), .agg E] w (fun e w' => e = .returned (.agg (bvs (S ++ Pg.rest N x8 y))) ∧ Below w.heap.size w w')) := fun w => by
        have h := psummed_any ([0, 0, 0, 0] ++ Pg.rest N x8 y) S hrl HSL.out HS8.out w
        rwa [pu_front (b := [0, 0, 0, 0]) (by rw [HSL.out]; rfl), HEE.out] at h
      obtain ⟨q2, hq2⟩ : ∃ q, decide (b = S ++ Pg.rest N x8 y) = q := ⟨_, rfl⟩
      have heq2 : ∀ w, (Op.equalIn 10000 50 (.agg D) (.agg (bvs (S ++ Pg.rest N x8 y)))).run Try.prog w = .ok q2 w := fun w => by
        rw [← HDE.out, ← hq2]
        refine equal512 HL.out ?_ H8.out (fun x hx => ?_) w
        · rw [List.length_append, HSL.out, Pg.rest_len hyl]
        · rcases List.mem_append.1 hx with h | h
          · exact HS8.out x h
          · exact hr8 x h
      have HPI : Hid ((q2 = true) ↔ Pg.page N x8 y = b) := by
        unfold Hid; rw [← hq2, decide_eq_true_iff]; exact Pg.page_iff HTS.out HSE.out.symm
      obtain ⟨F, hF⟩ : ∃ F, bvs ([0, 0, 0, 0] ++ Pg.rest N x8 y) = F := ⟨_, rfl⟩
      obtain ⟨G, hG⟩ : ∃ F, bvs (S ++ Pg.rest N x8 y) = F := ⟨_, rfl⟩
      rw [hF] at HU HSD
      rw [hG] at HSD heq2
      have hS2 : Rw x1.drew w1.heap.size 50 D ∧ Rw x1.drew w2.heap.size 53 E ∧ Below w1.heap.size w1 x1.drew := ⟨hS1.1.drew, hS1.2.1.drew, hS1.2.2.drew⟩
      have HO5 : Hid (OwnL yK x1.drew w1.heap.size (.slice A4 y.length c4) y) := HO4.out.drew_
      clear hrl hr8 hq2 hF hG hyl hS1 HO4
      go_wp2
      refine wp_region_held_drew (S := fun w' => Rw w' w1.heap.size 50 D ∧ Rw w' w2.heap.size 53 E ∧ Below w1.heap.size w1 w') (by kernel_rfl) hS2 (fun hH => ?_)
      refine wpAnyH_take (i := 0) (v := .agg D) rfl (by kernel_rfl) (by kernel_rfl) (by kernel_rfl) (fun _ _ _ h => h) (Or.inl ⟨by rfl, fun w' hSw => exec_load_row _ _ rfl w1.heap.size rfl 50 D (0, 0) _ w' hSw.1 Try.underlying50 rfl HCB.out⟩) hH ?_
      try simp only [Act.put, List.getElem_toArray, List.getElem_cons_zero, List.setIfInBounds_toArray, List.set_cons_zero, List.set_cons_succ]
      refine wpAnyH_take (i := 1) (v := ?_) rfl (by kernel_rfl) (by kernel_rfl) (by kernel_rfl) (fun _ _ _ h => h) (Or.inl ⟨by rfl, (by intro w' hSw; go_simp; first | done | with_reducible rfl)⟩) hH ?_
      try simp only [Act.put, List.getElem_toArray, List.getElem_cons_succ, List.getElem_cons_zero, List.setIfInBounds_toArray, List.set_cons_zero, List.set_cons_succ]
      refine wpAnyH_take (i := 2) (v := ?_) rfl (by kernel_rfl) (by kernel_rfl) (by kernel_rfl) (fun _ _ _ h => h) (Or.inl ⟨by rfl, (by intro w' hSw; go_simp; first | done | with_reducible rfl)⟩) hH ?_
      try simp only [Act.put, List.getElem_toArray, List.getElem_cons_succ, List.getElem_cons_zero, List.setIfInBounds_toArray, List.set_cons_zero, List.set_cons_succ]
      refine wpAnyH_take (i := 3) (v := ?_) rfl (by kernel_rfl) (by kernel_rfl) (by kernel_rfl) (fun _ _ _ h => h) (Or.inl ⟨by rfl, (by intro w' hSw; go_simp; first | done | with_reducible rfl)⟩) hH ?_
      try simp only [Act.put, List.getElem_toArray, List.getElem_cons_succ, List.getElem_cons_zero, List.setIfInBounds_toArray, List.set_cons_zero, List.set_cons_succ]
      refine wpAnyH_take (i := 5) (v := .agg E) rfl (by kernel_rfl) (by kernel_rfl) (by kernel_rfl) (fun _ _ _ h => h) (Or.inl ⟨by rfl, fun w' hSw => exec_load_row _ _ rfl w2.heap.size rfl 53 E (0, 0) _ w' hSw.2.1 Try.underlying53 rfl HCS.out⟩) hH ?_
      try simp only [Act.put, List.getElem_toArray, List.getElem_cons_succ, List.getElem_cons_zero, List.setIfInBounds_toArray, List.set_cons_zero, List.set_cons_succ]
      refine wpAnyH_ready (rs := [4]) (by kernel_rfl) (by simp) ?_
      refine AllReadyH.cons rfl (fun K hK => ?_) AllReadyH.nil
      go_simp
      refine HU.out.mono ?_
      rintro e x2 ⟨rfl, b5⟩
      have hS3 : Rw x2 w1.heap.size 50 D ∧ Rw x2 w2.heap.size 53 E ∧ Below w1.heap.size w1 x2 := ⟨hS2.1.below b5 hS2.1.lt, hS2.2.1.below b5 hS2.2.1.lt, hS2.2.2.trans (b5.mono hS2.2.2.size)⟩
      have HO6 := Lib.hid (HO5.out.below_ b5 (Nat.le_refl _))
      refine hK.out _ _ hS3 (fun hH => ?_)
      clear hK K hS2 b5 HO5 HU
      try simp only [Act.put, List.getElem_toArray, List.getElem_cons_succ, List.getElem_cons_zero, List.setIfInBounds_toArray, List.set_cons_zero, List.set_cons_succ]
      refine wpAnyH_ready (rs := [6]) (by kernel_rfl) (by simp) ?_
      refine AllReadyH.cons rfl (fun K hK => ?_) AllReadyH.nil
      go_simp
      refine (HSD.out x2).mono ?_
      rintro e x3 ⟨rfl, b6⟩
      have hS4 : Rw x3 w1.heap.size 50 D ∧ Rw x3 w2.heap.size 53 E ∧ Below w1.heap.size w1 x3 := ⟨hS3.1.below b6 hS3.1.lt, hS3.2.1.below b6 hS3.2.1.lt, hS3.2.2.trans (b6.mono hS3.2.2.size)⟩
      have HO7 := Lib.hid (HO6.out.below_ b6 (Nat.le_refl _))
      have HB7 := Lib.hid hS4.2.2
      refine hK.out _ _ hS4 (fun hH => ?_)
      clear hK K hS3 b6 HO6 HSD hS4
      try simp only [Act.put, List.getElem_toArray, List.getElem_cons_succ, List.getElem_cons_zero, List.setIfInBounds_toArray, List.set_cons_zero, List.set_cons_succ]
      refine wpAnyH_take (i := 7) (v := ?_) rfl (by kernel_rfl) (by kernel_rfl) (by kernel_rfl) (fun _ _ _ h => h) (Or.inl ⟨by rfl, (by intro w' hSw; go_simp; first | done | with_reducible rfl)⟩) hH ?_
      try simp only [Act.put, List.getElem_toArray, List.getElem_cons_succ, List.getElem_cons_zero, List.setIfInBounds_toArray, List.set_cons_zero, List.set_cons_succ]
      refine wpAnyH_done (by kernel_rfl) ?_ _
      clear hH heq2
      cases q2 with
      | false =>
        have HE : Hid (Pg.getE (N : Int) b = (0, [], 5)) := Pg.getE_form HG.out H2.out.1 H2.out.2 H3.out H4.out (by rw [HY8.out, HYB.out, Int.toNat_natCast]; exact fun h => by have := HPI.out.2 h; cases this)
        go_wp2
        go_ret3
        exact IsKL.none_b HE.out rfl rfl HB7.out
      | true =>
        have HE : Hid (Pg.getE (N : Int) b = (x8, y, 0)) := by
          have := Pg.getE_ok (n := (N : Int)) HG.out H2.out.1 H2.out.2 H3.out H4.out (by rw [HY8.out, HYB.out, Int.toNat_natCast]; exact HPI.out.1 rfl)
          rwa [HY8.out, HYB.out] at this
        go_wp2
        go_ret3
        exact IsKL.of HE.out rfl rfl HO7.out HB7.out
end Go.Proofs.Ytoefogmjekcbeaa
