/-
  page.Put.
-/
import Derived.Test.YtdmomnpmicagcaaPgC
import Derived.Test.YtdmomnpmicagcaaExecL
import Derived.Test.YtdmomnpmicagcaaHeldL
import Derived.Deep.RegionHeld3
namespace Go.Proofs.Ytdmomnpmicagcaa
open Go.RowKit
set_option linter.unusedVariables false
theorem drop4 (l : List Nat) : ([0, 0, 0, 0] ++ l).drop 4 = l := rfl
theorem page_pu (n k : Nat) (b : List Nat) : pu ([0, 0, 0, 0] ++ Pg.rest n k b) 0 (four (Cr.of (([0, 0, 0, 0] ++ Pg.rest n k b).drop 4))) = Pg.page n k b := by
  rw [pu_front (by rfl), drop4]; rfl
set_option maxHeartbeats 2000000 in
set_option maxRecDepth 100000 in
theorem ppgput_any (n : Int) (k : Nat) (v : Value) (b : List Nat) (B : Nat) (w : World) (hk : k < 256) (hv : Lv yK w B v b) (hB : B ≤ w.heap.size) :
    Calls Try.prog 7 #[.int .i64 n, .int .u8 (k : Nat), v] w (IsVE (Pg.putE n k b) w) := by
  have HM := Lib.hid (pmaybe_any n w)
  by_cases h0 : n < 0 ∨ 65536 ≤ n
  · have HE := Lib.hid (Pg.putE_arg (k := k) (b := b) h0)
    have hd : decide (0 ≤ n ∧ n < 65536) = false := decide_eq_false (by omega)
    rw [hd] at HM
    clear hd h0 hv
    go_enter Try.func7, Try.ntmps7
    go_wp2_with fail
    refine HM.out.mono ?_
    rintro e w1 ⟨rfl, rfl⟩
    go_wp2
    go_ret2
    exact IsVE.none_b HE.out rfl (Below.refl _ _)
  have hd : decide (0 ≤ n ∧ n < 65536) = true := decide_eq_true (by omega)
  rw [hd] at HM
  by_cases h2 : 496 < b.length
  · have HE := Lib.hid (Pg.putE_lim (n := n) (k := k) (b := b) (by omega) h2)
    have h2i : (496 : Int) < (b.length : Int) := by omega
    obtain ⟨A, c, rfl, k1, k2, -, -, -⟩ := hv
    have hll : b.length ≤ 9223372036854775807 := by simp only [maxLen] at k2; omega
    clear h2 hd h0 k1 k2
    go_enter Try.func7, Try.ntmps7
    go_wp2_with fail
    refine HM.out.mono ?_
    rintro e w1 ⟨rfl, rfl⟩
    go_wp2
    go_ret2
    exact IsVE.none_b HE.out rfl (Below.refl _ _)
  have HE := Lib.hid (Pg.putE_ok (n := n) (k := k) (b := b) (by omega) h2)
  obtain ⟨N, rfl⟩ := Int.eq_ofNat_of_zero_le (show 0 ≤ n by omega)
  rw [Int.toNat_natCast] at HE
  have hN : N < 65536 := by omega
  have hb8 : ∀ x ∈ b, x < 256 := fun x hx => hv.ok_ x hx
  have HU := Lib.hid (punsummed_any N k v b B w hN hk hv hB (by omega))
  have HP := page_pu N k b
  have hr8 : ∀ x ∈ [0, 0, 0, 0] ++ Pg.rest N k b, x < 256 := fun x hx => by
    rcases List.mem_append.1 hx with h | h
    · simp at h; omega
    · exact Pg.rest_lt hk hb8 x h
  have hrl : ([0, 0, 0, 0] ++ Pg.rest N k b).length = 512 := by rw [List.length_append, Pg.rest_len (by omega)]; rfl
  obtain ⟨R, hR⟩ : ∃ R, [0, 0, 0, 0] ++ Pg.rest N k b = R := ⟨_, rfl⟩
  rw [hR] at HU HP hr8 hrl
  have HS : Hid (∀ w, Calls Try.prog 18 #[.agg (bvs R)] w (fun e w' => e = .returned (.agg (bvs (four (Cr.of (R.drop 4))))) ∧ Below w.heap.size w w')) := fun w => pgsum_any R hrl hr8 w
  have HT : Hid (∀ w, Calls Try.prog 17 #[.agg (bvs R), .agg (bvs (four (Cr.of (R.drop 4))))] w (fun e w' => e = .returned (.agg (bvs (Pg.page N k b))) ∧ Below w.heap.size w w')) := fun w => by
    have h := psummed_any R (four (Cr.of (R.drop 4))) hrl rfl (four_lt _) w
    rwa [HP] at h
  have hpl : (Pg.page N k b).length = 512 := Pg.page_len (by omega)
  have HP8 : Hid (∀ x ∈ Pg.page N k b, x < 256) := Pg.page_lt hk hb8
  have HPL := Lib.hid hpl
  have HFR : Hid ((bvs R).size = 512) := by unfold Hid; rw [bvs_size, hrl]
  have HSR := Lib.hid (size512l hrl)
  have HOR := Lib.hid (bvs_one R)
  have HSP := Lib.hid (size512l hpl)
  have HOP := Lib.hid (bvs_one (Pg.page N k b))
  have HLP : Hid ((bvs (Pg.page N k b)).size = 512) := by unfold Hid; rw [bvs_size, hpl]
  obtain ⟨P, hP⟩ : ∃ P, Pg.page N k b = P := ⟨_, rfl⟩
  obtain ⟨F, hF⟩ : ∃ F, bvs R = F := ⟨_, rfl⟩
  obtain ⟨C, hC⟩ : ∃ F, bvs P = F := ⟨_, rfl⟩
  obtain ⟨S4, hS4⟩ : ∃ F, bvs (four (Cr.of (R.drop 4))) = F := ⟨_, rfl⟩
  rw [hS4] at HS HT
  rw [hF] at HU HS HT HFR HSR HOR
  rw [hP] at HE HT HP8 HPL HSP HOP HLP
  rw [hC] at HT HSP HOP HLP
  have HC := Lib.hid hC
  have hz := zero512V
  have HNS := Lib.hid none512_size
  obtain ⟨Z, hZ⟩ : ∃ Z, none512 = Z := ⟨_, rfl⟩
  rw [hZ] at hz HNS
  have h2i : ¬ (496 : Int) < (b.length : Int) := by omega
  obtain ⟨A, c, rfl, k1, k2, -, -, -⟩ := hv
  have hll : b.length ≤ 9223372036854775807 := by omega
  clear h2 hd h0 k1 k2 hR hr8 hrl hP hF hC hS4 hZ hpl hb8 HP hk hB hN
  go_enter Try.func7, Try.ntmps7
  go_wp2_with fail
  refine HM.out.mono ?_
  rintro e w1 ⟨rfl, rfl⟩
  go_wp2_with fail
  refine HU.out.mono ?_
  rintro e w2 ⟨rfl, b2⟩
  have HB2 := Lib.hid b2
  clear b2 HU HM
  go_wp2_with (refine wpList_store_row rfl _ _ _ rfl w2.heap.size F rfl rfl 38 _ (heap_alloc_new w2 _) HSR.out (by rw [HNS.out, HFR.out]) HOR.out ?_
               rw [World.setRow_alloc_new])
  generalize hX : w2.alloc (.cells F 38) = X
  have HX0 : Hid (Rw X w2.heap.size 38 F) := by unfold Hid; rw [← hX]; exact Rw.new _ _ _
  have HBX : Hid (Below w1.heap.size w1 X) := by unfold Hid; rw [← hX]; exact HB2.out.alloc HB2.out.size _
  have HZ2 : Hid (w1.heap.size ≤ w2.heap.size) := HB2.out.size
  clear hX HB2 hz
  have hS0 : Rw X.drew w2.heap.size 38 F ∧ Below w1.heap.size w1 X.drew := ⟨HX0.out.drew, HBX.out.drew⟩
  refine wp_region_m (fun w' => Rw w' w2.heap.size 38 F ∧ Below w1.heap.size w1 w') 4 (by kernel_rfl) ?_
  refine wpAnyM_take (i := 0) (v := .agg F) rfl (by kernel_rfl) (by kernel_rfl) (by kernel_rfl) (by kernel_rfl) (fun _ _ _ h => h) hS0 (Or.inl ⟨by rfl, fun w' hSw => exec_load_row _ _ rfl w2.heap.size rfl 38 F (0, 0) _ w' hSw.1 Try.underlying38 rfl HSR.out⟩) ?_
  try simp only [Act.put, List.getElem_toArray, List.getElem_cons_zero, List.setIfInBounds_toArray, List.set_cons_zero, List.set_cons_succ]
  refine wpAnyM_take (i := 1) (v := .agg F) rfl (by kernel_rfl) (by kernel_rfl) (by kernel_rfl) (by kernel_rfl) (fun _ _ _ h => h) hS0 (Or.inl ⟨by rfl, fun w' hSw => exec_load_row _ _ rfl w2.heap.size rfl 38 F (0, 0) _ w' hSw.1 Try.underlying38 rfl HSR.out⟩) ?_
  try simp only [Act.put, List.getElem_toArray, List.getElem_cons_succ, List.getElem_cons_zero, List.setIfInBounds_toArray, List.set_cons_zero, List.set_cons_succ]
  refine wpAnyM_next (i := 2) (by kernel_rfl) rfl (fun K hK => ?_)
  go_simp
  refine (HS.out X.drew).mono ?_
  rintro e x1 ⟨rfl, b3⟩
  have hS1 : Rw x1 w2.heap.size 38 F ∧ Below w1.heap.size w1 x1 := ⟨hS0.1.below b3 hS0.1.lt, hS0.2.trans (b3.mono hS0.2.size)⟩
  refine hK.out _ _ (.inr hS1) ?_
  clear hK K hS0 b3
  try simp only [Act.put, List.getElem_toArray, List.getElem_cons_succ, List.getElem_cons_zero, List.setIfInBounds_toArray, List.set_cons_zero, List.set_cons_succ]
  refine wpAnyM_next (i := 3) (by kernel_rfl) rfl (fun K hK => ?_)
  go_simp
  refine (HT.out x1).mono ?_
  rintro e x2 ⟨rfl, b4⟩
  have hS2 : Rw x2 w2.heap.size 38 F ∧ Below w1.heap.size w1 x2 := ⟨hS1.1.below b4 hS1.1.lt, hS1.2.trans (b4.mono hS1.2.size)⟩
  refine hK.out _ _ (.inr hS2) ?_
  clear hK K hS1 b4
  try simp only [Act.put, List.getElem_toArray, List.getElem_cons_succ, List.getElem_cons_zero, List.setIfInBounds_toArray, List.set_cons_zero, List.set_cons_succ]
  refine wpAnyM_next (i := 4) (by kernel_rfl) rfl (fun K hK => ?_)
  rw [if_pos (by rfl)]
  refine wp_store_row 38 (.tmp 8) (.tmp 22) rfl w2.heap.size C rfl rfl 38 F hS2.1 HSP.out (by rw [HFR.out, HLP.out]) HOP.out ?_
  refine hK.out _ _ (.inl (Nat.le_refl _)) ?_
  clear hK K
  try simp only [Act.put, List.getElem_toArray, List.getElem_cons_succ, List.getElem_cons_zero]
  refine wpAnyM_done (by kernel_rfl) ?_ _
  have HRF : Hid (Rw (x2.setRow w2.heap.size C) w2.heap.size 38 C) := Rw.row hS2.1 C
  have HBF : Hid (Below w1.heap.size w1 (x2.setRow w2.heap.size C)) := below_setRow hS2.2 HZ2.out _
  generalize x2.setRow w2.heap.size C = x3 at *
  clear hS2 HX0 HBX HT HS
  go_wp2
  go_ret2
  refine IsVE.of HE.out HPL.out.symm rfl ⟨HP8.out, .inr ⟨w2.heap.size, 38, by rw [HPL.out], HZ2.out, by rw [HPL.out]; simp [maxLen], ?_⟩⟩ HBF.out
  rw [HC.out]
  exact HRF.out
end Go.Proofs.Ytdmomnpmicagcaa

