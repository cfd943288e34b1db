/-
  pack: getToken, Get.
-/
import Derived.Test.YtapedjcchcgoeaaPkProA
import Derived.Test.YtapedjcchcgoeaaGet
import Derived.Test.YtapedjcchcgoeaaRPkC
import Derived.Test.YtapedjcchcgoeaaBvLv
namespace Go.Proofs.Ytapedjcchcgoeaa
open Go.RowKit
set_option linter.unusedVariables false
/-- A call that answers a token, a place and an error. -/
def IsTok (r : Int × Nat × Nat) (w : World) (e : Ending) (w' : World) : Prop :=
  e = .returned (.tuple #[.int .i64 r.1, .int .i64 (r.2.1 : Nat), .int .i64 (r.2.2 : Nat)]) ∧ Below w.heap.size w w'
theorem IsTok.of {w w' : World} {r : Int × Nat × Nat} {t : Int} {k e : Nat} (h : r = (t, k, e)) (hb : Below w.heap.size w w') : IsTok r w (.returned (.tuple #[.int .i64 t, .int .i64 (k : Nat), .int .i64 (e : Nat)])) w' := by
  subst h; exact ⟨rfl, hb⟩
/-- What the next token is: an error, or a token and a place within the bytes. -/
theorem Pk.next_cases {b : List Nat} (hb : ∀ x ∈ b, x < 256) {was : Int} (hw : Pk.Tok was) (k : Nat) :
    (∃ e, 2 ≤ e ∧ e ≤ 5 ∧ Mt.get b (k : Int) = (0, 0, e) ∧ Pk.next b was k = (0, 0, e)) ∨
    (∃ u j, u < 18446744073709551616 ∧ j ≤ b.length ∧ Mt.get b (k : Int) = (u, j, 0) ∧ (Pk.unfold u < -was ∨ 1048575 - was < Pk.unfold u) ∧ Pk.next b was k = (0, 0, 5)) ∨
    (∃ u j, u < 18446744073709551616 ∧ j ≤ b.length ∧ Mt.get b (k : Int) = (u, j, 0) ∧ ¬ (Pk.unfold u < -was ∨ 1048575 - was < Pk.unfold u) ∧ Pk.Tok (was + Pk.unfold u) ∧ Pk.next b was k = (was + Pk.unfold u, j, 0)) := by
  rcases Mt.get_cases hb (k : Int) with ⟨e, h2, h5, hg⟩ | ⟨k', u, r', _, _, h3, _, h5, h6⟩
  · exact .inl ⟨e, h2, h5, hg, Pk.next_err hg (by omega)⟩
  · by_cases hf : Pk.unfold u < -was ∨ 1048575 - was < Pk.unfold u
    · exact .inr (.inl ⟨u, _, h3, h5, h6, hf, Pk.next_form h6 hf⟩)
    · exact .inr (.inr ⟨u, _, h3, h5, h6, hf, by unfold Pk.Tok at hw ⊢; omega, Pk.next_ok h6 hf⟩)

set_option maxHeartbeats 2000000 in
set_option maxRecDepth 100000 in
theorem ptoken_any (v : Value) (b : List Nat) (B k : Nat) (was : Int) (hw : Pk.Tok was) (w : World) (h : Bv w B v b) :
    Calls Try.prog 32 #[v, .int .i64 (k : Nat), .int .i64 was] w (IsTok (Pk.next b was k) w) := by
  have HX := Lib.hid (get_any v b B (k : Int) w h)
  have hlt8 := h.lt_
  obtain ⟨A, c, rfl, hc1, hc2, _, _⟩ := h
  have hbl : b.length ≤ 9223372036854775807 := by simp only [maxLen] at hc2; omega
  clear hc1 hc2
  rcases Pk.next_cases hlt8 hw k with ⟨e, he2, he5, hg, hn⟩ | ⟨u, j, hu, hj, hg, hf, hn⟩ | ⟨u, j, hu, hj, hg, hf, htk, hn⟩
  · have HE := Lib.hid hn
    rw [hg] at HX
    have hq : ((e : Int) != 0) = true := by rw [bne_iff_ne]; omega
    clear hg hn
    go_enter Try.func32, Try.ntmps32
    go_wp2_with fail
    ((with_reducible refine HX.out.mono ?_); rintro e' w3 ⟨rfl, hb3⟩)
    clear HX
    go_wp2
    go_ret3
    exact IsTok.of HE.out hb3
  · have HE := Lib.hid hn
    rw [hg] at HX
    have HU : Hid (∀ w', Calls Try.prog 12 #[.int .u64 (u : Nat)] w' (fun e w'' => e = .returned (.int .i64 (Pk.unfold u)) ∧ w' = w'')) := fun w' => punfold_any u hu w'
    obtain ⟨d, hd⟩ : ∃ d, Pk.unfold u = d := ⟨_, rfl⟩
    rw [hd] at HU hf
    have w1 : IntKind.i64.wrap (-was) = -was := by unfold Pk.Tok at hw; rw [IntKind.wrap_i64]; omega
    have w2' : IntKind.i64.wrap (1048575 - was) = 1048575 - was := by unfold Pk.Tok at hw; rw [IntKind.wrap_i64]; omega
    clear hg hn hd
    by_cases hf1 : d < -was
    · clear hf
      go_enter Try.func32, Try.ntmps32
      go_wp2_with fail
      ((with_reducible refine HX.out.mono ?_); rintro e' w3 ⟨rfl, hb3⟩)
      simp only [Int.natCast_zero]
      have HB3 := Lib.hid hb3
      clear HX hb3
      go_wp2_with fail
      ((with_reducible refine (HU.out w3).mono ?_); rintro e' w4 ⟨rfl, rfl⟩)
      go_wp2
      go_ret3
      exact IsTok.of HE.out HB3.out
    · have hf2 : 1048575 - was < d := by omega
      clear hf
      go_enter Try.func32, Try.ntmps32
      go_wp2_with fail
      ((with_reducible refine HX.out.mono ?_); rintro e' w3 ⟨rfl, hb3⟩)
      simp only [Int.natCast_zero]
      have HB3 := Lib.hid hb3
      clear HX hb3
      go_wp2_with fail
      ((with_reducible refine (HU.out w3).mono ?_); rintro e' w4 ⟨rfl, rfl⟩)
      go_wp2
      go_ret3
      exact IsTok.of HE.out HB3.out
  · have HE := Lib.hid hn
    rw [hg] at HX
    have HU : Hid (∀ w', Calls Try.prog 12 #[.int .u64 (u : Nat)] w' (fun e w'' => e = .returned (.int .i64 (Pk.unfold u)) ∧ w' = w'')) := fun w' => punfold_any u hu w'
    have hui := Pk.unfold_i64 hu
    obtain ⟨d, hd⟩ : ∃ d, Pk.unfold u = d := ⟨_, rfl⟩
    rw [hd] at HU hf htk HE
    have w1 : IntKind.i64.wrap (-was) = -was := by unfold Pk.Tok at hw; rw [IntKind.wrap_i64]; omega
    have w2' : IntKind.i64.wrap (1048575 - was) = 1048575 - was := by unfold Pk.Tok at hw; rw [IntKind.wrap_i64]; omega
    have w3' : IntKind.i64.wrap (was + d) = was + d := by unfold Pk.Tok at htk; rw [IntKind.wrap_i64]; omega
    have hf1 : ¬ d < -was := by omega
    have hf2 : ¬ 1048575 - was < d := by omega
    clear hg hn hd hf hui
    go_enter Try.func32, Try.ntmps32
    go_wp2_with fail
    ((with_reducible refine HX.out.mono ?_); rintro e' w3 ⟨rfl, hb3⟩)
    simp only [Int.natCast_zero]
    have HB3 := Lib.hid hb3
    clear HX hb3
    go_wp2_with fail
    ((with_reducible refine (HU.out w3).mono ?_); rintro e' w4 ⟨rfl, rfl⟩)
    go_wp2
    go_ret3
    exact IsTok.of HE.out HB3.out

set_option maxHeartbeats 2000000 in
set_option maxRecDepth 100000 in
theorem ppget_any (b : List Nat) (v : Value) (B : Nat) (a : Int) (w : World) (h0 : Lv yK w B v b) (hB : B ≤ w.heap.size) : Calls Try.prog 19 #[v, .int .i64 a] w (IsPG (Pk.getE b a) w) := by
  have h := h0.bv_
  have H0 := Lib.hid h
  have HC := Lib.hid (get_any v b B a w h)
  have hlt8 := h.lt_
  have HT8 := Lib.hid hlt8
  obtain ⟨A, c, rfl, hc1, hc2, _, _⟩ := h
  have hbl : b.length ≤ 9223372036854775807 := by simp only [maxLen] at hc2; omega
  clear hc1 hc2 h0
  rcases Mt.get_cases hlt8 a with ⟨e, he2, he5, hr⟩ | ⟨k0, n, r, rfl, hk0, hbn, hs, hle, hr⟩
  · have HE := Lib.hid (Pk.getE_err (Mt.count_err (most := 65536) hr (by omega)) (by omega))
    rw [hr] at HC
    have hq : ((e : Int) != 0) = true := by rw [bne_iff_ne]; omega
    clear hr
    go_enter Try.func19, Try.ntmps19
    go_wp2_with fail
    ((with_reducible refine HC.out.mono ?_); rintro e' w2 ⟨rfl, hb2⟩)
    clear HC
    go_wp2
    go_ret3
    exact IsPG.none_b HE.out rfl rfl hb2
  · by_cases hn : (65536 : Int) < (n : Int)
    · have HE := Lib.hid (Pk.getE_err (Mt.count_lim (most := 65536) hr (by omega)) (by omega))
      rw [hr] at HC
      clear hr hs
      unfold Mt.B64 at hbn
      go_enter Try.func19, Try.ntmps19
      go_wp2_with fail
      ((with_reducible refine HC.out.mono ?_); rintro e' w2 ⟨rfl, hb2⟩)
      simp only [Int.natCast_zero]
      clear HC
      go_wp2
      go_ret3
      exact IsPG.none_b HE.out rfl rfl hb2
    · have HE := Lib.hid (Pk.getE_on (Mt.count_ok (most := 65536) hr (by omega)))
      rw [hr] at HC
      have HRT : Hid (∀ (k : Nat) (was : Int) w', Pk.Tok was → Below w.heap.size w w' → Calls Try.prog 32 #[.slice A b.length c, .int .i64 (k : Nat), .int .i64 was] w' (IsTok (Pk.next b was k) w')) := fun k was w' ht hb' => ptoken_any _ b B k was ht w' (H0.out.below_ hb' hB)
      obtain ⟨k1, hk1⟩ : ∃ k1, k0 + (Mt.put n).length = k1 := ⟨_, rfl⟩
      rw [hk1] at HC HE hle
      have wd : IntKind.i64.wrap ((b.length : Int) - (k1 : Int)) = (b.length : Int) - (k1 : Int) := by rw [IntKind.wrap_i64]; omega
      obtain ⟨m, hm⟩ : ∃ m : Nat, (if (b.length : Int) - (k1 : Int) < (n : Int) then (b.length : Int) - (k1 : Int) else (n : Int)) = (m : Int) ∧ m ≤ 65536 := by
        split
        · exact ⟨b.length - k1, by omega, by omega⟩
        · exact ⟨n, rfl, by omega⟩
      clear hr hk1 hs hbn hlt8
      go_enter Try.func19, Try.ntmps19
      go_wp2_with fail
      ((with_reducible refine HC.out.mono ?_); rintro e' w2 ⟨rfl, hb2⟩)
      have HB2 := Lib.hid hb2
      simp only [Int.natCast_zero]
      clear HC hb2
      go_wp2_with (at_make; go_must (refine wpList_make_l _ iK rfl _ _ rfl w.heap.size .i64 .i64 _ _ 0 m rfl rfl rfl rfl (Nat.zero_le _) (by show 8 * _ ≤ _; omega) (by simp only [maxLen]; omega) HB2.out.size ?_; intro w3 hO hG))
      have HB3 : Hid (Below w.heap.size w w3) := HB2.out.grown hG HB2.out.size (by intro k hk; cases hk)
      have HO3 : Hid (OwnL iK w3 w.heap.size (.slice (some ⟨w2.heap.size, 0, none⟩) 0 m) []) := hO
      have hm2 := hm.2
      clear HB2 hO hG hm
      go_loopw [4, 5, 6, 8, 30] (fun vo nx ee tk i wr => ∃ (i0 k : Nat) (y : List Int) (was : Int), i0 ≤ n ∧ nx = .int .i64 (k : Nat) ∧ ee = .int .i64 0 ∧ i = .int .u64 (i0 : Nat) ∧ tk = .int .i64 was ∧ Hid (Pk.getE b (k0 : Int) = Pk.getL b (n - i0) y k) ∧ Hid (y.length = i0 ∧ was = y.getLastD 0 ∧ Pk.Tok was) ∧ Hid (OwnL iK wr w.heap.size vo y) ∧ Below w.heap.size w wr) (fun _ _ _ _ i _ => n - (intOf i).toNat)
      case atStart => exact ⟨0, k1, [], 0, by omega, rfl, rfl, rfl, rfl, HE.out, ⟨rfl, rfl, by unfold Pk.Tok; omega⟩, HO3.out, HB3.out⟩
      case round =>
        obtain ⟨i0, k, y, was, hi0, rfl, rfl, rfl, rfl, HG, HY, HO, hbr⟩ := hrel
        have hbase : w.heap.size ≤ wr.heap.size := hbr.size
        clear HB3 HO3 HE
        by_cases hlt : i0 < n
        · have hki : (i0 : Int) < (n : Int) := by omega
          have wk : IntKind.u64.wrap ((i0 : Int) + 1) = (i0 : Int) + 1 := by rw [IntKind.wrap_u64]; omega
          have HX := Lib.hid (HRT.out k was wr HY.out.2.2 hbr)
          obtain ⟨n', hn'⟩ : ∃ n', n - i0 = n' + 1 := ⟨n - i0 - 1, by omega⟩
          rw [hn'] at HG
          have hnc : (∃ e, 2 ≤ e ∧ e ≤ 5 ∧ Pk.next b was k = (0, 0, e)) ∨ (∃ t j, Pk.Tok t ∧ j ≤ b.length ∧ Pk.next b was k = (t, j, 0)) := by
            rcases Pk.next_cases HT8.out HY.out.2.2 k with ⟨e, h2, h5, _, h⟩ | ⟨u, j, _, _, _, _, h⟩ | ⟨u, j, _, hj, _, _, ht, h⟩
            · exact .inl ⟨e, h2, h5, h⟩
            · exact .inl ⟨5, by omega, by omega, h⟩
            · exact .inr ⟨_, j, ht, hj, h⟩
          rcases hnc with ⟨e, he2, he5, hg⟩ | ⟨t, j, htk, hj, hg⟩
          · have HE := Lib.hid (HG.out.trans (Pk.getL_err HY.out.2.1 hg (by omega)))
            rw [hg] at HX
            have hq : ((e : Int) != 0) = true := by rw [bne_iff_ne]; omega
            clear hg HG HY HO
            go_wp2_with fail
            ((with_reducible refine HX.out.mono ?_); rintro e' w4 ⟨rfl, hb4⟩)
            have HB4 := Lib.hid (hbr.trans (hb4.mono hbase))
            clear HX hb4 hbr
            go_wp2
            go_ret3
            exact IsPG.none_b HE.out rfl rfl HB4.out
          · rw [hg] at HX
            have HG2 : Hid (Pk.getE b (k0 : Int) = Pk.getL b (n - (i0 + 1)) (y ++ [t]) j) := by
              have h1 := Pk.getL_ok (n := n') HY.out.2.1 hg
              have h2 : n - (i0 + 1) = n' := by omega
              unfold Hid
              rw [h2]
              exact HG.out.trans h1
            have HYL := Lib.hid HY.out.1
            have HTK := Lib.hid htk
            have HKx : Hid (I64 t) := by unfold Pk.Tok at htk; unfold Hid I64; omega
            clear hg HG HY htk
            go_wp2_with fail
            ((with_reducible refine HX.out.mono ?_); rintro e' w4 ⟨rfl, hb4⟩)
            simp only [Int.natCast_zero]
            have HB4 := Lib.hid (hbr.trans (hb4.mono hbase))
            have HO4 := Lib.hid (HO.out.below_ hb4 (Nat.le_refl _))
            have hbase4 : w.heap.size ≤ w4.heap.size := HB4.out.size
            clear HX hb4 hbr HO
            go_wp2_with (at_builtin; go_must (refine wpList_push_l _ iK rfl _ _ rfl w.heap.size _ rfl y HO4.out rfl t HKx.out _ rfl _ rfl (by have := HYL.out; show _ * 8 ≤ _; omega) (by have := HYL.out; simp only [maxLen]; omega) hbase4 ?_; intro A3 c3 w5 hA hG))
            go_roundw
            case rel => exact ⟨i0 + 1, j, y ++ [t], t, by omega, rfl, rfl, by go_num, rfl, HG2.out, ⟨by simp [HYL.out], (Pk.getLastD_snoc _ _ _).symm, HTK.out⟩, (by have h := hA; rw [HYL.out] at h; rw [HYL.out]; exact h), HB4.out.grown hG hbase4 (fun k hk => (HO4.out.lt_ k hk).1)⟩
            case measure => simp [intOf]; omega
        · have hki : ¬ (i0 : Int) < (n : Int) := by omega
          have HE : Hid (Pk.getE b (k0 : Int) = (y, k, 0)) := by
            have h0 : n - i0 = 0 := by omega
            unfold Hid
            rw [HG.out, h0]
            rfl
          clear HG HY
          go_wp2
          go_ret3
          exact IsPG.of HE.out rfl HO.out hbr
end Go.Proofs.Ytapedjcchcgoeaa
