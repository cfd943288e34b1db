/-
  stookref12.Get.
-/
import Derived.Test.YtapedjcchcgoeaaRPkA
import Derived.Test.YtapedjcchcgoeaaRCount
import Derived.BigRegion
namespace Go.Proofs.Ytapedjcchcgoeaa
open Go.RowKit
set_option linter.unusedVariables false
/-- A call that answers a row, in new memory, a place and an error. -/
def IsPG (r : List Int × Nat × Nat) (w : World) (e : Ending) (w' : World) : Prop :=
  ∃ A c, e = .returned (.tuple #[.slice A r.1.length c, .int .i64 (r.2.1 : Nat), .int .i64 (r.2.2 : Nat)]) ∧ OwnL iK w' w.heap.size (.slice A r.1.length c) r.1 ∧ Below w.heap.size w w'
theorem IsPG.none_b {w w' : World} {r : List Int × Nat × Nat} {e : Nat} {x y : Int} (h : r = ([], 0, e)) (hx : x = (e : Nat)) (hy : y = 0) (hb : Below w.heap.size w w') : IsPG r w (.returned (.tuple #[.slice none 0 0, .int .i64 y, .int .i64 x])) w' := by
  subst h hx hy; exact ⟨none, 0, rfl, OwnL.nil_ _ _ _, hb⟩
theorem IsPG.of {w w' : World} {r : List Int × Nat × Nat} {y : List Int} {k : Nat} {v : Value} {x : Int} (h : r = (y, k, 0)) (hx : x = 0) (ho : OwnL iK w' w.heap.size v y) (hb : Below w.heap.size w w') : IsPG r w (.returned (.tuple #[v, .int .i64 (k : Nat), .int .i64 x])) w' := by
  subst h hx
  obtain ⟨A, c, e, _⟩ := ho.form_
  subst e
  exact ⟨A, c, rfl, ho, hb⟩

set_option maxHeartbeats 2000000 in
set_option maxRecDepth 100000 in
theorem rpget_any (v : Value) (b : List Nat) (B : Nat) (a : Int) (w : World) (hB : B ≤ w.heap.size) (h : Bv w B v b) :
    Calls Try.prog 20 #[v, .int .i64 a] w (IsPG (Pk.getE b a) w) := by
  have H0 := Lib.hid h
  have HC := Lib.hid (rcount_any v b B a 65536 w h (by omega))
  have hlt8 := h.lt_
  obtain ⟨A, c, rfl, hc1, hc2, _, _⟩ := h
  have hbl : b.length ≤ 9223372036854775807 := by simp only [maxLen] at hc2; omega
  clear hc1 hc2
  rcases Mt.count_cases hlt8 a 65536 with ⟨e, he2, he5, hr⟩ | ⟨k0, n, r, rfl, hk0, hbn, hs, hle, hr, hn⟩
  · have HE := Lib.hid (Pk.getE_err hr (by omega))
    rw [hr] at HC
    have hq : ((e : Int) != 0) = true := by rw [bne_iff_ne]; omega
    clear hr
    go_enter Try.func20, Try.ntmps20
    go_wp2_with fail
    ((with_reducible refine HC.out.mono ?_); rintro e' w2 ⟨rfl, hb2⟩)
    clear HC
    go_wp2
    go_ret3
    exact IsPG.none_b HE.out rfl rfl hb2
  · have HE := Lib.hid (Pk.getE_on hr)
    rw [hr] at HC
    have HGC : Hid (∀ k : Nat, (∃ e, 2 ≤ e ∧ e ≤ 5 ∧ Mt.get b (k : Int) = (0, 0, e)) ∨ (∃ u j, u < 18446744073709551616 ∧ j ≤ b.length ∧ Mt.get b (k : Int) = (u, j, 0))) := fun k => by
      rcases Mt.get_cases hlt8 (k : Int) with h | ⟨k', u, r', _, _, h3, _, h5, h6⟩
      · exact .inl h
      · exact .inr ⟨u, _, h3, h5, h6⟩
    have HRG : Hid (∀ (k : Nat) w', Below w.heap.size w w' → Calls Try.prog 34 #[.slice A b.length c, .int .i64 (k : Nat)] w' (IsGot (Mt.get b (k : Nat)) w')) := fun k w' hb' => rget_any _ b B _ w' (H0.out.below_ hb' hB)
    obtain ⟨k1, hk1⟩ : ∃ k1, k0 + (Mt.put n).length = k1 := ⟨_, rfl⟩
    rw [hk1] at HC HE hle
    clear hr hk1 hs hbn hlt8
    go_enter Try.func20, Try.ntmps20
    go_wp2_with fail
    ((with_reducible refine HC.out.mono ?_); rintro e' w2 ⟨rfl, hb2⟩)
    have HB2 := Lib.hid hb2
    simp only [Int.natCast_zero]
    clear HC hb2
    go_wp2
    go_loopw [8, 10, 11, 12, 13, 14, 15, 16] (fun nx vo ws i _ _ _ _ wr => ∃ (i0 k : Nat) (y : List Int) (was : Int), i0 ≤ n ∧ nx = .int .i64 (k : Nat) ∧ i = .int .i64 (i0 : Nat) ∧ ws = .int .i64 was ∧ Hid (Pk.getE b (k0 : Int) = Pk.getL b (n - i0) y k) ∧ Hid (y.length = i0 ∧ was = y.getLastD 0 ∧ Pk.Tok was) ∧ Hid (OwnL iK wr w.heap.size vo y) ∧ Below w.heap.size w wr) (fun _ _ _ i _ _ _ _ _ => n - (intOf i).toNat)
    case atStart => exact ⟨0, k1, [], 0, by omega, rfl, rfl, rfl, HE.out, ⟨rfl, rfl, by unfold Pk.Tok; omega⟩, OwnL.nil_ _ _ _, HB2.out⟩
    case round =>
      obtain ⟨i0, k, y, was, hi0, rfl, rfl, rfl, HG, HY, HO, hbr⟩ := hrel
      have hbase : w.heap.size ≤ wr.heap.size := hbr.size
      clear HB2 HE
      by_cases hlt : i0 < n
      · have hki : (i0 : Int) < (n : Int) := by omega
        have wk : IntKind.i64.wrap ((i0 : Int) + 1) = (i0 : Int) + 1 := by rw [IntKind.wrap_i64]; omega
        have HX := Lib.hid (HRG.out k wr hbr)
        obtain ⟨n', hn'⟩ : ∃ n', n - i0 = n' + 1 := ⟨n - i0 - 1, by omega⟩
        rw [hn'] at HG
        rcases HGC.out k with ⟨e, he2, he5, hg⟩ | ⟨u, j, hu, hj, hg⟩
        · have HE := Lib.hid (HG.out.trans (Pk.getL_err HY.out.2.1 (Pk.next_err hg (by omega)) (by omega)))
          rw [hg] at HX
          have hq : ((e : Int) != 0) = true := by rw [bne_iff_ne]; omega
          clear hg HG HY HO
          go_wp2_with fail
          ((with_reducible refine HX.out.mono ?_); rintro e' w3 ⟨rfl, hb3⟩)
          have HB3 := Lib.hid (hbr.trans (hb3.mono hbase))
          clear HX hb3 hbr
          go_wp2
          go_ret3
          exact IsPG.none_b HE.out rfl rfl HB3.out
        · rw [hg] at HX
          have HU : Hid (∀ w', Calls Try.prog 13 #[.int .u64 (u : Nat)] w' (fun e w'' => e = .returned (.int .i64 (Pk.unfold u)) ∧ w' = w'')) := fun w' => runfold_any u hu w'
          have hui := Pk.unfold_i64 hu
          have htw := HY.out.2.2
          obtain ⟨d, hd⟩ : ∃ d, Pk.unfold u = d := ⟨_, rfl⟩
          rw [hd] at HU hui
          have w1 : IntKind.i64.wrap (-was) = -was := by unfold Pk.Tok at htw; rw [IntKind.wrap_i64]; omega
          have w2' : IntKind.i64.wrap (1048575 - was) = 1048575 - was := by unfold Pk.Tok at htw; rw [IntKind.wrap_i64]; omega
          by_cases hf : d < -was ∨ 1048575 - was < d
          · have HE := Lib.hid (HG.out.trans (Pk.getL_err HY.out.2.1 (Pk.next_form hg (by rw [hd]; exact hf)) (by omega)))
            clear hg HG HY HO htw hui
            by_cases hf1 : d < -was
            · clear hf
              go_wp2_with fail
              ((with_reducible refine HX.out.mono ?_); rintro e' w3 ⟨rfl, hb3⟩)
              simp only [Int.natCast_zero]
              have HB3 := Lib.hid (hbr.trans (hb3.mono hbase))
              clear HX hb3 hbr
              go_wp2_with fail
              ((with_reducible refine (HU.out w3).mono ?_); rintro e' w4 ⟨rfl, rfl⟩)
              go_wp2
              go_ret3
              exact IsPG.none_b HE.out rfl rfl HB3.out
            · have hf2 : 1048575 - was < d := by omega
              clear hf
              go_wp2_with fail
              ((with_reducible refine HX.out.mono ?_); rintro e' w3 ⟨rfl, hb3⟩)
              simp only [Int.natCast_zero]
              have HB3 := Lib.hid (hbr.trans (hb3.mono hbase))
              clear HX hb3 hbr
              go_wp2_with fail
              ((with_reducible refine (HU.out w3).mono ?_); rintro e' w4 ⟨rfl, rfl⟩)
              go_wp2
              go_ret3
              exact IsPG.none_b HE.out rfl rfl HB3.out
          · have hf1 : ¬ d < -was := by omega
            have hf2 : ¬ 1048575 - was < d := by omega
            have w3' : IntKind.i64.wrap (was + d) = was + d := by unfold Pk.Tok at htw; rw [IntKind.wrap_i64]; omega
            have HTK : Hid (Pk.Tok (was + d)) := by unfold Pk.Tok at htw; unfold Hid Pk.Tok; omega
            have HG2 : Hid (Pk.getE b (k0 : Int) = Pk.getL b (n - (i0 + 1)) (y ++ [was + d]) j) := by
              have h1 := Pk.getL_ok (n := n') HY.out.2.1 (Pk.next_ok hg (by rw [hd]; exact hf))
              rw [hd] at h1
              have h2 : n - (i0 + 1) = n' := by omega
              unfold Hid
              rw [h2]
              exact HG.out.trans h1
            have HYL := HY.out.1
            clear hg HG htw hui hf HY
            go_wp2_with fail
            ((with_reducible refine HX.out.mono ?_); rintro e' w3 ⟨rfl, hb3⟩)
            simp only [Int.natCast_zero]
            have HB3 := Lib.hid (hbr.trans (hb3.mono hbase))
            have HO3 := Lib.hid (HO.out.below_ hb3 (Nat.le_refl _))
            have hbase3 : w.heap.size ≤ w3.heap.size := HB3.out.size
            have HKx : Hid (I64 (was + d)) := by have h := HTK.out; unfold Pk.Tok at h; unfold Hid I64; omega
            clear HX hb3 hbr HO
            go_wp2_with fail
            ((with_reducible refine (HU.out w3).mono ?_); rintro e' w4 ⟨rfl, rfl⟩)
            go_wp2_with (at_builtin; go_must (refine wpList_push_l _ iK rfl _ _ rfl w.heap.size _ rfl y HO3.out rfl (was + d) HKx.out _ rfl _ rfl (by show _ * 8 ≤ _; omega) (by simp only [maxLen]; omega) hbase3 ?_; intro A3 c3 w5 hA hG))
            go_roundw
            case rel => exact ⟨i0 + 1, j, y ++ [was + d], was + d, by omega, rfl, by go_num, rfl, HG2.out, ⟨by simp [HYL], (Pk.getLastD_snoc _ _ _).symm, HTK.out⟩, (by have h := hA; rw [HYL] at h; exact h), HB3.out.grown hG hbase3 (fun k hk => (HO3.out.lt_ k hk).1)⟩
            case measure => simp [intOf]; omega
      · have hki : ¬ (i0 : Int) < (n : Int) := by omega
        have HE : Hid (Pk.getE b (k0 : Int) = (y, k, 0)) := by
          have h0 : n - i0 = 0 := by omega
          unfold Hid
          rw [HG.out, h0]
          rfl
        clear HG HY
        go_wp2
        go_ret3
        exact IsPG.of HE.out rfl HO.out hbr
end Go.Proofs.Ytapedjcchcgoeaa
