/-
  PkProD: pack: getToken, Get.
  RBpE: stookref10.Encode.
  RPut: stookref01.Put answers the bytes of a number, in new memory.
  RPkB: stookref12.Put.
-/
import Derived.Test.YtkialijipcbgkaaPk28
import Derived.Test.YtkialijipcbgkaaPk23
import Derived.Test.YtkialijipcbgkaaPk30
import Derived.Test.YtkialijipcbgkaaPk21
import Derived.Test.YtkialijipcbgkaaPk09
import Derived.Test.YtkialijipcbgkaaPk26
import Derived.Test.YtkialijipcbgkaaPk02
import Derived.BigRegion
namespace Go.Proofs.Ytkialijipcbgkaa
open Go.RowKit
set_option linter.unusedVariables false
/-- A call that answers a token, a place and an error. -/
def IsTok (r : Int × Nat × Nat) (w : World) (e : Ending) (w' : World) : Prop :=
  e = .returned (.tuple #[.int .i64 r.1, .int .i64 (r.2.1 : Nat), .int .i64 (r.2.2 : Nat)]) ∧ Below w.heap.size w w'
theorem IsTok.of {w w' : World} {r : Int × Nat × Nat} {t : Int} {k e : Nat} (h : r = (t, k, e)) (hb : Below w.heap.size w w') : IsTok r w (.returned (.tuple #[.int .i64 t, .int .i64 (k : Nat), .int .i64 (e : Nat)])) w' := by
  subst h; exact ⟨rfl, hb⟩
/-- What the next token is: an error, or a token and a place within the bytes. -/
theorem Pk.next_cases {b : List Nat} (hb : ∀ x ∈ b, x < 256) {was : Int} (hw : Pk.Tok was) (k : Nat) :
    (∃ e, 2 ≤ e ∧ e ≤ 5 ∧ Mt.get b (k : Int) = (0, 0, e) ∧ Pk.next b was k = (0, 0, e)) ∨
    (∃ u j, u < 18446744073709551616 ∧ j ≤ b.length ∧ Mt.get b (k : Int) = (u, j, 0) ∧ (Pk.unfold u < -was ∨ 1048575 - was < Pk.unfold u) ∧ Pk.next b was k = (0, 0, 5)) ∨
    (∃ u j, u < 18446744073709551616 ∧ j ≤ b.length ∧ Mt.get b (k : Int) = (u, j, 0) ∧ ¬ (Pk.unfold u < -was ∨ 1048575 - was < Pk.unfold u) ∧ Pk.Tok (was + Pk.unfold u) ∧ Pk.next b was k = (was + Pk.unfold u, j, 0)) := by
  rcases Mt.get_cases hb (k : Int) with ⟨e, h2, h5, hg⟩ | ⟨k', u, r', _, _, h3, _, h5, h6⟩
  · exact .inl ⟨e, h2, h5, hg, Pk.next_err hg (by omega)⟩
  · by_cases hf : Pk.unfold u < -was ∨ 1048575 - was < Pk.unfold u
    · exact .inr (.inl ⟨u, _, h3, h5, h6, hf, Pk.next_form h6 hf⟩)
    · exact .inr (.inr ⟨u, _, h3, h5, h6, hf, by unfold Pk.Tok at hw ⊢; omega, Pk.next_ok h6 hf⟩)

set_option maxHeartbeats 2000000 in
set_option maxRecDepth 100000 in
theorem ptoken_any (v : Value) (b : List Nat) (B k : Nat) (was : Int) (hw : Pk.Tok was) (w : World) (h : Bv w B v b) :
    Calls Try.prog 57 #[v, .int .i64 (k : Nat), .int .i64 was] w (IsTok (Pk.next b was k) w) := by
  have HX := Lib.hid (get_any v b B (k : Int) w h)
  have hlt8 := h.lt_
  obtain ⟨A, c, rfl, hc1, hc2, _, _⟩ := h
  have hbl : b.length ≤ 9223372036854775807 := by simp only [maxLen] at hc2; omega
  clear hc1 hc2
  rcases Pk.next_cases hlt8 hw k with ⟨e, he2, he5, hg, hn⟩ | ⟨u, j, hu, hj, hg, hf, hn⟩ | ⟨u, j, hu, hj, hg, hf, htk, hn⟩
  · have HE := Lib.hid hn
    rw [hg] at HX
    have hq : ((e : Int) != 0) = true := by rw [bne_iff_ne]; omega
    clear hg hn
    go_enter Try.func57, Try.ntmps57
    go_wp2_with fail
    ((with_reducible refine HX.out.mono ?_); rintro e' w3 ⟨rfl, hb3⟩)
    clear HX
    go_wp2
    go_ret3
    exact IsTok.of HE.out hb3
  · have HE := Lib.hid hn
    rw [hg] at HX
    have HU : Hid (∀ w', Calls Try.prog 80 #[.int .u64 (u : Nat)] w' (fun e w'' => e = .returned (.int .i64 (Pk.unfold u)) ∧ w' = w'')) := fun w' => punfold_any u hu w'
    obtain ⟨d, hd⟩ : ∃ d, Pk.unfold u = d := ⟨_, rfl⟩
    rw [hd] at HU hf
    have w1 : IntKind.i64.wrap (-was) = -was := by unfold Pk.Tok at hw; rw [IntKind.wrap_i64]; omega
    have w2' : IntKind.i64.wrap (1048575 - was) = 1048575 - was := by unfold Pk.Tok at hw; rw [IntKind.wrap_i64]; omega
    clear hg hn hd
    by_cases hf1 : d < -was
    · clear hf
      go_enter Try.func57, Try.ntmps57
      go_wp2_with fail
      ((with_reducible refine HX.out.mono ?_); rintro e' w3 ⟨rfl, hb3⟩)
      simp only [Int.natCast_zero]
      have HB3 := Lib.hid hb3
      clear HX hb3
      go_wp2_with fail
      ((with_reducible refine (HU.out w3).mono ?_); rintro e' w4 ⟨rfl, rfl⟩)
      go_wp2
      go_ret3
      exact IsTok.of HE.out HB3.out
    · have hf2 : 1048575 - was < d := by omega
      clear hf
      go_enter Try.func57, Try.ntmps57
      go_wp2_with fail
      ((with_reducible refine HX.out.mono ?_); rintro e' w3 ⟨rfl, hb3⟩)
      simp only [Int.natCast_zero]
      have HB3 := Lib.hid hb3
      clear HX hb3
      go_wp2_with fail
      ((with_reducible refine (HU.out w3).mono ?_); rintro e' w4 ⟨rfl, rfl⟩)
      go_wp2
      go_ret3
      exact IsTok.of HE.out HB3.out
  · have HE := Lib.hid hn
    rw [hg] at HX
    have HU : Hid (∀ w', Calls Try.prog 80 #[.int .u64 (u : Nat)] w' (fun e w'' => e = .returned (.int .i64 (Pk.unfold u)) ∧ w' = w'')) := fun w' => punfold_any u hu w'
    have hui := Pk.unfold_i64 hu
    obtain ⟨d, hd⟩ : ∃ d, Pk.unfold u = d := ⟨_, rfl⟩
    rw [hd] at HU hf htk HE
    have w1 : IntKind.i64.wrap (-was) = -was := by unfold Pk.Tok at hw; rw [IntKind.wrap_i64]; omega
    have w2' : IntKind.i64.wrap (1048575 - was) = 1048575 - was := by unfold Pk.Tok at hw; rw [IntKind.wrap_i64]; omega
    have w3' : IntKind.i64.wrap (was + d) = was + d := by unfold Pk.Tok at htk; rw [IntKind.wrap_i64]; omega
    have hf1 : ¬ d < -was := by omega
    have hf2 : ¬ 1048575 - was < d := by omega
    clear hg hn hd hf hui
    go_enter Try.func57, Try.ntmps57
    go_wp2_with fail
    ((with_reducible refine HX.out.mono ?_); rintro e' w3 ⟨rfl, hb3⟩)
    simp only [Int.natCast_zero]
    have HB3 := Lib.hid hb3
    clear HX hb3
    go_wp2_with fail
    ((with_reducible refine (HU.out w3).mono ?_); rintro e' w4 ⟨rfl, rfl⟩)
    go_wp2
    go_ret3
    exact IsTok.of HE.out HB3.out

set_option maxHeartbeats 2000000 in
set_option maxRecDepth 100000 in
theorem ppget_any (b : List Nat) (v : Value) (B : Nat) (a : Int) (w : World) (h0 : Lv yK w B v b) (hB : B ≤ w.heap.size) : Calls Try.prog 38 #[v, .int .i64 a] w (IsPG (Pk.getE b a) w) := by
  have h := h0.bv_
  have H0 := Lib.hid h
  have HC := Lib.hid (get_any v b B a w h)
  have hlt8 := h.lt_
  have HT8 := Lib.hid hlt8
  obtain ⟨A, c, rfl, hc1, hc2, _, _⟩ := h
  have hbl : b.length ≤ 9223372036854775807 := by simp only [maxLen] at hc2; omega
  clear hc1 hc2 h0
  rcases Mt.get_cases hlt8 a with ⟨e, he2, he5, hr⟩ | ⟨k0, n, r, rfl, hk0, hbn, hs, hle, hr⟩
  · have HE := Lib.hid (Pk.getE_err (Mt.count_err (most := 65536) hr (by omega)) (by omega))
    rw [hr] at HC
    have hq : ((e : Int) != 0) = true := by rw [bne_iff_ne]; omega
    clear hr
    go_enter Try.func38, Try.ntmps38
    go_wp2_with fail
    ((with_reducible refine HC.out.mono ?_); rintro e' w2 ⟨rfl, hb2⟩)
    clear HC
    go_wp2
    go_ret3
    exact IsPG.none_b HE.out rfl rfl hb2
  · by_cases hn : (65536 : Int) < (n : Int)
    · have HE := Lib.hid (Pk.getE_err (Mt.count_lim (most := 65536) hr (by omega)) (by omega))
      rw [hr] at HC
      clear hr hs
      unfold Mt.B64 at hbn
      go_enter Try.func38, Try.ntmps38
      go_wp2_with fail
      ((with_reducible refine HC.out.mono ?_); rintro e' w2 ⟨rfl, hb2⟩)
      simp only [Int.natCast_zero]
      clear HC
      go_wp2
      go_ret3
      exact IsPG.none_b HE.out rfl rfl hb2
    · have HE := Lib.hid (Pk.getE_on (Mt.count_ok (most := 65536) hr (by omega)))
      rw [hr] at HC
      have HRT : Hid (∀ (k : Nat) (was : Int) w', Pk.Tok was → Below w.heap.size w w' → Calls Try.prog 57 #[.slice A b.length c, .int .i64 (k : Nat), .int .i64 was] w' (IsTok (Pk.next b was k) w')) := fun k was w' ht hb' => ptoken_any _ b B k was ht w' (H0.out.below_ hb' hB)
      obtain ⟨k1, hk1⟩ : ∃ k1, k0 + (Mt.put n).length = k1 := ⟨_, rfl⟩
      rw [hk1] at HC HE hle
      have wd : IntKind.i64.wrap ((b.length : Int) - (k1 : Int)) = (b.length : Int) - (k1 : Int) := by rw [IntKind.wrap_i64]; omega
      obtain ⟨m, hm⟩ : ∃ m : Nat, (if (b.length : Int) - (k1 : Int) < (n : Int) then (b.length : Int) - (k1 : Int) else (n : Int)) = (m : Int) ∧ m ≤ 65536 := by
        split
        · exact ⟨b.length - k1, by omega, by omega⟩
        · exact ⟨n, rfl, by omega⟩
      clear hr hk1 hs hbn hlt8
      go_enter Try.func38, Try.ntmps38
      go_wp2_with fail
      ((with_reducible refine HC.out.mono ?_); rintro e' w2 ⟨rfl, hb2⟩)
      have HB2 := Lib.hid hb2
      simp only [Int.natCast_zero]
      clear HC hb2
      go_wp2_with (at_make; go_must (refine wpList_make_l _ iK rfl _ _ rfl w.heap.size .i64 .i64 _ _ 0 m rfl rfl rfl rfl (Nat.zero_le _) (by show 8 * _ ≤ _; omega) (by simp only [maxLen]; omega) HB2.out.size ?_; intro w3 hO hG))
      have HB3 : Hid (Below w.heap.size w w3) := HB2.out.grown hG HB2.out.size (by intro k hk; cases hk)
      have HO3 : Hid (OwnL iK w3 w.heap.size (.slice (some ⟨w2.heap.size, 0, none⟩) 0 m) []) := hO
      have hm2 := hm.2
      clear HB2 hO hG hm
      go_loopw [4, 5, 6, 8, 30] (fun vo nx ee tk i wr => ∃ (i0 k : Nat) (y : List Int) (was : Int), i0 ≤ n ∧ nx = .int .i64 (k : Nat) ∧ ee = .int .i64 0 ∧ i = .int .u64 (i0 : Nat) ∧ tk = .int .i64 was ∧ Hid (Pk.getE b (k0 : Int) = Pk.getL b (n - i0) y k) ∧ Hid (y.length = i0 ∧ was = y.getLastD 0 ∧ Pk.Tok was) ∧ Hid (OwnL iK wr w.heap.size vo y) ∧ Below w.heap.size w wr) (fun _ _ _ _ i _ => n - (intOf i).toNat)
      case atStart => exact ⟨0, k1, [], 0, by omega, rfl, rfl, rfl, rfl, HE.out, ⟨rfl, rfl, by unfold Pk.Tok; omega⟩, HO3.out, HB3.out⟩
      case round =>
        obtain ⟨i0, k, y, was, hi0, rfl, rfl, rfl, rfl, HG, HY, HO, hbr⟩ := hrel
        have hbase : w.heap.size ≤ wr.heap.size := hbr.size
        clear HB3 HO3 HE
        by_cases hlt : i0 < n
        · have hki : (i0 : Int) < (n : Int) := by omega
          have wk : IntKind.u64.wrap ((i0 : Int) + 1) = (i0 : Int) + 1 := by rw [IntKind.wrap_u64]; omega
          have HX := Lib.hid (HRT.out k was wr HY.out.2.2 hbr)
          obtain ⟨n', hn'⟩ : ∃ n', n - i0 = n' + 1 := ⟨n - i0 - 1, by omega⟩
          rw [hn'] at HG
          have hnc : (∃ e, 2 ≤ e ∧ e ≤ 5 ∧ Pk.next b was k = (0, 0, e)) ∨ (∃ t j, Pk.Tok t ∧ j ≤ b.length ∧ Pk.next b was k = (t, j, 0)) := by
            rcases Pk.next_cases HT8.out HY.out.2.2 k with ⟨e, h2, h5, _, h⟩ | ⟨u, j, _, _, _, _, h⟩ | ⟨u, j, _, hj, _, _, ht, h⟩
            · exact .inl ⟨e, h2, h5, h⟩
            · exact .inl ⟨5, by omega, by omega, h⟩
            · exact .inr ⟨_, j, ht, hj, h⟩
          rcases hnc with ⟨e, he2, he5, hg⟩ | ⟨t, j, htk, hj, hg⟩
          · have HE := Lib.hid (HG.out.trans (Pk.getL_err HY.out.2.1 hg (by omega)))
            rw [hg] at HX
            have hq : ((e : Int) != 0) = true := by rw [bne_iff_ne]; omega
            clear hg HG HY HO
            go_wp2_with fail
            ((with_reducible refine HX.out.mono ?_); rintro e' w4 ⟨rfl, hb4⟩)
            have HB4 := Lib.hid (hbr.trans (hb4.mono hbase))
            clear HX hb4 hbr
            go_wp2
            go_ret3
            exact IsPG.none_b HE.out rfl rfl HB4.out
          · rw [hg] at HX
            have HG2 : Hid (Pk.getE b (k0 : Int) = Pk.getL b (n - (i0 + 1)) (y ++ [t]) j) := by
              have h1 := Pk.getL_ok (n := n') HY.out.2.1 hg
              have h2 : n - (i0 + 1) = n' := by omega
              unfold Hid
              rw [h2]
              exact HG.out.trans h1
            have HYL := Lib.hid HY.out.1
            have HTK := Lib.hid htk
            have HKx : Hid (I64 t) := by unfold Pk.Tok at htk; unfold Hid I64; omega
            clear hg HG HY htk
            go_wp2_with fail
            ((with_reducible refine HX.out.mono ?_); rintro e' w4 ⟨rfl, hb4⟩)
            simp only [Int.natCast_zero]
            have HB4 := Lib.hid (hbr.trans (hb4.mono hbase))
            have HO4 := Lib.hid (HO.out.below_ hb4 (Nat.le_refl _))
            have hbase4 : w.heap.size ≤ w4.heap.size := HB4.out.size
            clear HX hb4 hbr HO
            go_wp2_with (at_builtin; go_must (refine wpList_push_l _ iK rfl _ _ rfl w.heap.size _ rfl y HO4.out rfl t HKx.out _ rfl _ rfl (by have := HYL.out; show _ * 8 ≤ _; omega) (by have := HYL.out; simp only [maxLen]; omega) hbase4 ?_; intro A3 c3 w5 hA hG))
            go_roundw
            case rel => exact ⟨i0 + 1, j, y ++ [t], t, by omega, rfl, rfl, by go_num, rfl, HG2.out, ⟨by simp [HYL.out], (Pk.getLastD_snoc _ _ _).symm, HTK.out⟩, (by have h := hA; rw [HYL.out] at h; rw [HYL.out]; exact h), HB4.out.grown hG hbase4 (fun k hk => (HO4.out.lt_ k hk).1)⟩
            case measure => simp [intOf]; omega
        · have hki : ¬ (i0 : Int) < (n : Int) := by omega
          have HE : Hid (Pk.getE b (k0 : Int) = (y, k, 0)) := by
            have h0 : n - i0 = 0 := by omega
            unfold Hid
            rw [HG.out, h0]
            rfl
          clear HG HY
          go_wp2
          go_ret3
          exact IsPG.of HE.out rfl HO.out hbr
end Go.Proofs.Ytkialijipcbgkaa
namespace Go.Proofs.Ytkialijipcbgkaa
open Go.RowKit
set_option linter.unusedVariables false

set_option maxHeartbeats 4000000 in
set_option maxRecDepth 100000 in
theorem rencode_any (P : List Vo.Pc) (v : Value) (b : List Nat) (u : Value) (B : Nat) (w : World) (hv : Lv pK w B v P) (hu : Lv yK w B u b) (hB : B ≤ w.heap.size) :
    Calls Try.prog 47 #[.agg #[v], u] w (IsLE iK (Bp.encE P b) w) := by
  obtain ⟨W, hW⟩ : ∃ W, w.alloc (.cells #[v] 41) = W := ⟨_, rfl⟩
  obtain ⟨d0, hsz, hb⟩ := boxed hW
  have HM := Lib.hid (rbegin_any P v b u B W (hv.below_ hb hB) (hu.below_ hb hB) (Nat.le_trans hB hb.size))
  have HV := Lib.hid hv
  have HU := Lib.hid hu
  have HB0 := Lib.hid hb
  have HBB := Lib.hid hB
  have HSZ := Lib.hid hsz
  obtain ⟨A, c, rfl, -, -, -, -, -⟩ := hv
  obtain ⟨A2, c2, rfl, k1, k2, -, -, -⟩ := hu
  have hll : b.length ≤ 9223372036854775807 := by simp only [maxLen] at k2; omega
  clear hb hsz hB k1 k2
  by_cases hm : Vo.May P
  · by_cases hbig : 4096 < b.length
    · have hbe : Bp.beginE P b = ([], 3) := by unfold Bp.beginE; rw [if_pos hm, if_pos hbig]
      have HX : Hid (Bp.encE P b = ([], 3)) := by unfold Hid Bp.encE; rw [if_pos hm, if_pos hbig]
      rw [hbe] at HM
      clear hm hbig hbe
      go_enter Try.func47, Try.ntmps47
      go_wp2_with (fail)
      refine (HM.out).mono ?_
      rintro e w1 ⟨A1, c1, rfl, ho, hb1⟩
      have HB1 := Lib.hid (HB0.out.trans (hb1.mono HB0.out.size))
      clear hb1 HM ho
      go_wp2
      go_ret2
      exact IsLE.none_b HX.out rfl HB1.out
    · have hbe : Bp.beginE P b = (Bp.beginL P b, 0) := by unfold Bp.beginE; rw [if_pos hm, if_neg hbig]
      have HX : Hid (Bp.encE P b = (Bp.enc P b, 0)) := by unfold Hid Bp.encE; rw [if_pos hm, if_neg hbig]
      rw [hbe] at HM
      have hle := (Vo.may_iff.1 hm).1
      have hln : b.length ≤ 4096 := by omega
      have HST : Hid (∀ (l : List Int) (r : Value) w', Below W.heap.size W w' → Lv iK w' w'.heap.size r l → l.length ≤ 4096 → Calls Try.prog 69 #[.agg #[.slice A P.length c], r] w' (fun e w'' => e = .returned (.tuple #[.int .i64 ((Bp.pickE P l).1 : Nat), .int .i64 (Bp.pickE P l).2.1, .bool (Bp.pickE P l).2.2]) ∧ Below w'.heap.size w' w'')) := fun l r w' hb hr hl => rstep_any P _ l r w'.heap.size w' ((HV.out.below_ (HB0.out.trans (hb.mono HB0.out.size)) HBB.out).mono_ (Nat.le_trans HBB.out (HB0.out.trans (hb.mono HB0.out.size)).size)) hr (Nat.le_refl _) hl hle
      have HBX : Hid (∀ w', Below W.heap.size W w' → w'.cell? ⟨w.heap.size, 0, none⟩ = some (.slice A P.length c)) := fun w' hb => (hb.cell (p := ⟨w.heap.size, 0, none⟩) (by show w.heap.size < _; have := HSZ.out; omega)).trans d0
      have hbl : (Bp.beginL P b).length = b.length := Bp.begin_len
      obtain ⟨L0, hL0⟩ : ∃ L, Bp.beginL P b = L := ⟨_, rfl⟩
      have HN0 : Hid (Bp.nf (Bp.jn P) L0 = Bp.enc P b) := by rw [← hL0]; rfl
      rw [hL0] at hbl HM
      clear hm hbig hbe hL0
      go_enter Try.func47, Try.ntmps47
      go_wp2_with (fail)
      refine (HM.out).mono ?_
      rintro e w1 ⟨A1, c1, rfl, ho, hb1⟩
      have HB1 := Lib.hid hb1
      have HO1 : Hid (OwnL iK w1 W.heap.size (.slice A1 L0.length c1) L0) := ho
      have HBL := Lib.hid hbl
      simp only [hbl, Int.natCast_zero]
      clear hb1 HM ho hbl
      go_wp2
      go_loopw [6, 8, 9, 10, 11] (fun s i _ _ _ wr => ∃ (k : Nat) (L : List Int) (Ak : Option Addr) (ck nk : Nat), k ≤ b.length ∧ i = .int .i64 k ∧ s = .slice Ak nk ck ∧ Hid (L.length = nk ∧ nk + k ≤ b.length) ∧ Hid (Bp.nf (Bp.jn P) L = Bp.enc P b) ∧ Hid (OwnL iK wr W.heap.size (.slice Ak nk ck) L) ∧ Hid (Below W.heap.size W wr)) (fun _ i _ _ _ _ => b.length - (intOf i).toNat)
      case atStart => exact ⟨0, L0, A1, c1, b.length, Nat.zero_le _, rfl, rfl, ⟨HBL.out, by omega⟩, HN0.out, by have h := HO1.out; rw [HBL.out] at h; exact h, HB1.out⟩
      case round =>
        obtain ⟨k, L, Ak, ck, nk, hk, rfl, rfl, HLN, HNF, HO, HBr⟩ := hrel
        have wk : IntKind.i64.wrap ((k : Int) + 1) = (k : Int) + 1 := by rw [IntKind.wrap_i64]; omega
        have e0 := HBX.out wr HBr.out
        by_cases hlt : k < b.length
        · have hki : (k : Int) < (b.length : Int) := by omega
          have hL := HLN.out.1
          have HC := HST.out L _ wr HBr.out (by have h := HO.out.form_; exact h) (by have := HLN.out; omega)
          have HKL := Lib.hid hlt
          clear hlt hk
          rcases Bp.pickE_cases P L with ⟨hp, hs⟩ | ⟨x, T, hp, hs, hxl, hTl⟩
          · rw [hp] at HC
            have HC1 : Hid (Calls Try.prog 69 #[.agg #[.slice A P.length c], .slice Ak nk ck] wr (fun e w'' => e = .returned (.tuple #[.int .i64 0, .int .i64 0, .bool false]) ∧ Below wr.heap.size wr w'')) := HC
            have HF : Hid (Bp.enc P b = L) := by unfold Hid; rw [← HNF.out, Bp.nf_none hs]
            clear HC hp hs hL
            go_wp2_with (fail)
            refine (HC1.out).mono ?_
            rintro e w2 ⟨rfl, hb2⟩
            have HO2 := Lib.hid (HO.out.below_ hb2 (Nat.le_refl _))
            have HB2 := Lib.hid (HBr.out.trans (hb2.mono HBr.out.size))
            clear hb2 HC1 HO HBr
            go_wp2
            go_ret2
            exact IsLE.of HX.out (by rw [HF.out, HLN.out.1]) rfl (by rw [HF.out]; exact HO2.out.mono_ (by have := HSZ.out; omega)) (HB0.out.trans (HB2.out.mono (by have := HSZ.out; omega)))
          · rw [hp] at HC
            have HC1 : Hid (Calls Try.prog 69 #[.agg #[.slice A P.length c], .slice Ak nk ck] wr (fun e w'' => e = .returned (.tuple #[.int .i64 (x : Nat), .int .i64 (T : Nat), .bool true]) ∧ Below wr.heap.size wr w'')) := HC
            have HNF2 : Hid (Bp.nf (Bp.jn P) (Bp.joined L x (T : Int)) = Bp.enc P b) := by unfold Hid; rw [← HNF.out, Bp.nf_step hs]
            have hjl := Bp.joined_len (t := (T : Int)) hxl
            have HLN2 : Hid ((Bp.joined L x (T : Int)).length + 1 = nk) := by unfold Hid; omega
            have HXL : Hid (x + 1 < L.length ∧ L.length ≤ 4096 ∧ I64 (T : Int)) := ⟨hxl, by have := HLN.out; omega, by unfold I64; omega⟩
            clear HC hp hs hL hxl hTl hjl
            go_wp2_with (fail)
            refine (HC1.out).mono ?_
            rintro e w2 ⟨rfl, hb2⟩
            have HO2 := Lib.hid (HO.out.below_ hb2 (Nat.le_refl _))
            have HB2 := Lib.hid (HBr.out.trans (hb2.mono HBr.out.size))
            have HJ2 := Lib.hid (rjoined_any L _ x (T : Int) w2.heap.size w2 HO2.out.form_ (Nat.le_refl _) HXL.out.1 HXL.out.2.1 HXL.out.2.2)
            obtain ⟨J, hJ⟩ : ∃ J, Bp.joined L x (T : Int) = J := ⟨_, rfl⟩
            rw [hJ] at HJ2 HNF2 HLN2
            clear hb2 HC1 HO HBr hJ e0 HNF
            go_wp2_with (fail)
            refine (HJ2.out).mono ?_
            rintro e w3 ⟨A3, c3, rfl, ho, hb3⟩
            have HB3 := Lib.hid (HB2.out.trans (hb3.mono HB2.out.size))
            have HO3 := Lib.hid (ho.mono_ HB2.out.size)
            clear ho hb3 HJ2 HO2 HB2
            go_wp2
            go_roundw
            case rel => exact ⟨k + 1, J, A3, c3, J.length, HKL.out, by go_num, rfl, ⟨rfl, by have := HLN.out; have := HLN2.out; omega⟩, HNF2.out, HO3.out, HB3.out⟩
            case measure => simp [intOf]; have := HKL.out; omega
        · have hkn : k = b.length := by omega
          have hki : ¬ (k : Int) < (b.length : Int) := by omega
          have hL0 : L.length = 0 := by have := HLN.out; omega
          have hs : Bp.stepOf (Bp.jn P) L = none := by rw [List.eq_nil_of_length_eq_zero hL0]; rfl
          have HF : Hid (Bp.enc P b = L) := by unfold Hid; rw [← HNF.out, Bp.nf_none hs]
          clear hlt hk hL0 hs hkn
          go_wp2
          go_ret2
          exact IsLE.of HX.out (by rw [HF.out, HLN.out.1]) rfl (by rw [HF.out]; exact HO.out.mono_ (by have := HSZ.out; omega)) (HB0.out.trans (HBr.out.mono (by have := HSZ.out; omega)))
  · have hbe : Bp.beginE P b = ([], 11) := by unfold Bp.beginE; rw [if_neg hm]
    have HX : Hid (Bp.encE P b = ([], 11)) := by unfold Hid Bp.encE; rw [if_neg hm]
    rw [hbe] at HM
    clear hm hbe
    go_enter Try.func47, Try.ntmps47
    go_wp2_with (fail)
    refine (HM.out).mono ?_
    rintro e w1 ⟨A1, c1, rfl, ho, hb1⟩
    have HB1 := Lib.hid (HB0.out.trans (hb1.mono HB0.out.size))
    clear hb1 HM ho
    go_wp2
    go_ret2
    exact IsLE.none_b HX.out rfl HB1.out
end Go.Proofs.Ytkialijipcbgkaa
namespace Go.Proofs.Ytkialijipcbgkaa
open Go.RowKit
set_option linter.unusedVariables false

theorem OwnB.fresh {w w' : World} {v : Value} {l : List Nat} (h : OwnB w' w.heap.size v l) (hb : Below w.heap.size w w') : IsFresh l w (.returned v) w' := by
  obtain ⟨A, c, rfl, _⟩ := h.form_
  exact ⟨A, c, rfl, h, hb⟩

set_option maxHeartbeats 400000 in
set_option maxRecDepth 100000 in
theorem rput_small (n : Nat) (hn : n < 128) (w : World) :
    Calls Try.prog 35 #[.int .u64 n] w (IsFresh (Mt.put n) w) := by
  have HP := Lib.hid (Mt.put_small hn)
  go_enter Try.func35, Try.ntmps35
  go_wp2
  go_ret
  have h := OwnB.lit_ w (Nat.le_refl _) (c := n) rfl (by omega)
  rw [HP.out]
  exact h.fresh ((Below.refl _ _).alloc (Nat.le_refl _) _)

theorem wrap_div (n : Nat) (hb : Mt.B64 n) : IntKind.u64.wrap ((n : Int) / 128) = ((n / 128 : Nat) : Int) := by
  unfold Mt.B64 at hb
  rw [IntKind.wrap_u64]
  omega

set_option maxHeartbeats 400000 in
set_option maxRecDepth 100000 in
theorem rput_any (k : Nat) : ∀ (n : Nat) (w : World), n < 128 ^ (k + 1) → Mt.B64 n →
    Calls Try.prog 35 #[.int .u64 n] w (IsFresh (Mt.put n) w) := by
  induction k with
  | zero => intro n w h _; exact rput_small n (by simpa using h) w
  | succ k ih =>
    intro n w h hb
    by_cases hn : n < 128
    · exact rput_small n hn w
    · have HP := Lib.hid (Mt.put_step (by omega) hb)
      have hq : n / 128 < 128 ^ (k + 1) := by rw [Nat.div_lt_iff_lt_mul (by decide)]; rw [Nat.pow_succ] at h; exact h
      have HI := Lib.hid (ih (n / 128) (w.alloc (.cells #[.int .u8 ((n : Int) % 128 + 128)] 5)) hq (Mt.b64_div hb))
      have hl := Mt.put_len_le (n / 128)
      have HW := Lib.hid (wrap_div n hb)
      have ho := Lib.hid (OwnB.lit_ w (Nat.le_refl _) (c := n % 128 + 128) (x := (n : Int) % 128 + 128) (by omega) (by omega))
      have hbel := Lib.hid ((Below.refl w.heap.size w).alloc (Nat.le_refl _) (.cells #[.int .u8 ((n : Int) % 128 + 128)] 5))
      clear ih h hb hq
      go_enter Try.func35, Try.ntmps35
      go_wp2_with fail
      rw [HW.out]
      ((with_reducible refine HI.out.mono ?_); rintro e w1 ⟨A, c, rfl, hown, hb1⟩)
      have hsrc := Lib.hid hown.form_
      have ho1 := Lib.hid (ho.out.below_ hb1 (Nat.le_refl _))
      have hb2 := Lib.hid (hbel.out.trans (hb1.mono (by simp)))
      have hsz : w.heap.size ≤ w1.heap.size := by have := hb1.size; simp at this; omega
      clear hown hb1 ho hbel
      go_wp2_with (at_builtin; go_must (refine wpList_append_bytes _ rfl _ _ rfl rfl w.heap.size _ rfl [n % 128 + 128] ho1.out _ rfl _ (Mt.put (n / 128)) hsrc.out (by simp; omega) hsz ?_; intro A2 c2 w2 hA))
      go_ret
      have hO := hA.own
      have hB : Below w.heap.size w w2 := hb2.out.grown hA.grown hsz (fun k hk => (ho1.out.lt_ k hk).1)
      have hf := hO.fresh hB
      rw [HP.out]
      simpa using hf
end Go.Proofs.Ytkialijipcbgkaa
namespace Go.Proofs.Ytkialijipcbgkaa
open Go.RowKit
set_option linter.unusedVariables false
/-- A call that answers bytes, in new memory, and an error. -/
def IsPB (r : List Nat × Nat) (w : World) (e : Ending) (w' : World) : Prop :=
  ∃ A c, e = .returned (.tuple #[.slice A r.1.length c, .int .i64 (r.2 : Nat)]) ∧ OwnB w' w.heap.size (.slice A r.1.length c) r.1 ∧ Below w.heap.size w w'
theorem IsPB.none_b {w w' : World} {r : List Nat × Nat} {e : Nat} {x : Int} (h : r = ([], e)) (hx : x = (e : Nat)) (hb : Below w.heap.size w w') : IsPB r w (.returned (.tuple #[.slice none 0 0, .int .i64 x])) w' := by
  subst h hx; exact ⟨none, 0, rfl, OwnB.nil_ _ _, hb⟩
theorem IsPB.of {w w' : World} {r : List Nat × Nat} {y : List Nat} {v : Value} {x : Int} (h : r = (y, 0)) (hx : x = 0) (ho : OwnB w' w.heap.size v y) (hb : Below w.heap.size w w') : IsPB r w (.returned (.tuple #[v, .int .i64 x])) w' := by
  subst h hx
  obtain ⟨A, c, e, _⟩ := ho.form_
  subst e
  exact ⟨A, c, rfl, ho, hb⟩

set_option maxHeartbeats 2000000 in
set_option maxRecDepth 100000 in
theorem rpput_any (v : Value) (l : List Int) (B : Nat) (w : World) (hB : B ≤ w.heap.size) (h : Lv iK w B v l) :
    Calls Try.prog 34 #[v] w (IsPB (Pk.putE l) w) := by
  have H0 := Lib.hid h
  obtain ⟨A, c, rfl, hc1, hc2, _, _⟩ := h
  have hl : l.length ≤ 9223372036854775807 := by simp only [maxLen] at hc2; omega
  by_cases hbig : 65536 < l.length
  · have hbi : (65536 : Int) < (l.length : Int) := by omega
    have HE : Hid (Pk.putE l = ([], 3)) := if_pos hbig
    clear hbig hc1 hc2
    go_enter Try.func34, Try.ntmps34
    go_wp2
    go_ret2
    exact IsPB.none_b HE.out rfl (Below.refl _ _)
  · have hbi : ¬ (65536 : Int) < (l.length : Int) := by omega
    have HPE : Hid (Pk.putE l = if ∀ t ∈ l, Pk.Tok t then (Mt.put l.length ++ Pk.bytes 0 l, 0) else ([], 2)) := if_neg hbig
    have HP := Lib.hid (rput_any 9 l.length w (by omega) (by unfold Mt.B64; omega))
    have hlen := Mt.put_len_le l.length
    have HW : Hid (IntKind.u64.wrap (l.length : Int) = (l.length : Int)) := by unfold Hid; rw [IntKind.wrap_u64]; omega
    clear hc1 hc2
    go_enter Try.func34, Try.ntmps34
    go_wp2_with fail
    try rw [HW.out]
    ((with_reducible refine HP.out.mono ?_); rintro e w1 ⟨A1, c1, rfl, ho, hb1⟩)
    have HO := Lib.hid ho
    have HB := Lib.hid hb1
    clear ho hb1 HP HW
    go_wp2_with fail
    go_loopw [4, 5, 6, 7] (fun u ws i _ wr => ∃ (k : Nat) (y : List Nat) (was : Int), k ≤ l.length ∧ i = .int .i64 (k : Nat) ∧ ws = .int .i64 was ∧ Hid (was = (l.take k).getLastD 0 ∧ Pk.Tok was ∧ ∀ t ∈ l.take k, Pk.Tok t) ∧ Hid (OwnB wr w.heap.size u y) ∧ Hid (y = Mt.put l.length ++ Pk.bytes 0 (l.take k)) ∧ Below w.heap.size w wr) (fun _ _ i _ _ => l.length - (intOf i).toNat)
    case atStart => exact ⟨0, Mt.put l.length, 0, by omega, rfl, rfl, ⟨rfl, by unfold Pk.Tok; omega, by simp⟩, HO.out, by simp [Hid, Pk.bytes], HB.out⟩
    case round =>
      obtain ⟨k, y, was, hk, rfl, rfl, HT, HY, HE, hbr⟩ := hrel
      have hbase : w.heap.size ≤ wr.heap.size := hbr.size
      clear HO HB
      by_cases hlt : k < l.length
      · have hki : (k : Int) < (l.length : Int) := by omega
        have hk0 : (0 : Int) ≤ (k : Int) := by omega
        have wk : IntKind.i64.wrap ((k : Int) + 1) = (k : Int) + 1 := by rw [IntKind.wrap_i64]; omega
        obtain ⟨b, off, x, rfl, hb, hx, hq, hcell0⟩ := H0.out.int_ hlt
        have DX0 : Hid (∀ w', Below w.heap.size w w' → w'.cell? ⟨b, off + k, none⟩ = some (.int .i64 x)) := fun w' hb' => (hb'.cell (p := ⟨b, off + k, none⟩) (by show b < _; omega)).trans hcell0
        have hcell := DX0.out wr hbr
        clear hcell0
        by_cases htk : Pk.Tok x
        · have hx0 : ¬ x < 0 := by unfold Pk.Tok at htk; omega
          have hx1 : ¬ 1048575 < x := by unfold Pk.Tok at htk; omega
          have hwt := HT.out.2.1
          have hf := Pk.fold_tok htk hwt
          have wsb : IntKind.i64.wrap (x - was) = x - was := by unfold Pk.Tok at htk hwt; rw [IntKind.wrap_i64]; omega
          have DX : Hid (∀ w', Below w.heap.size w w' → w'.cell? ⟨b, off + k, none⟩ = some (.int .i64 x)) := fun w' hb' => DX0.out w' hb'
          have HF := Lib.hid (rfold_any (x - was) (by unfold Pk.Tok at htk hwt; unfold I64; omega) wr)
          have HX := Lib.hid (rput_any 9 (Pk.fold (x - was)) wr (by omega) (by unfold Mt.B64; omega))
          have hxl := Mt.put_len_le (Pk.fold (x - was))
          have HT2 : Hid (x = (l.take (k + 1)).getLastD 0 ∧ Pk.Tok x ∧ ∀ t ∈ l.take (k + 1), Pk.Tok t) := by
            unfold Hid
            rw [Pk.take_more hq]
            refine ⟨(Pk.getLastD_snoc _ _ _).symm, htk, fun t ht => ?_⟩
            rcases List.mem_append.1 ht with h | h
            · exact HT.out.2.2 t h
            · rw [List.mem_singleton.1 h]; exact htk
          have HE2 : Hid (y ++ Mt.put (Pk.fold (x - was)) = Mt.put l.length ++ Pk.bytes 0 (l.take (k + 1))) := by
            unfold Hid
            rw [Pk.bytes_more hq, HE.out, ← HT.out.1, List.append_assoc]
          have hyl : y.length ≤ 10 + 10 * k := by
            have h1 := Pk.bytes_len (l.take k) 0
            have h2 : (l.take k).length ≤ k := List.length_take_le _ _
            rw [HE.out, List.length_append]
            omega
          clear hq hb hx htk hwt hf HT HE
          go_wp2_with fail
          ((with_reducible refine HF.out.mono ?_); rintro e w2 ⟨rfl, rfl⟩)
          go_wp2_with fail
          ((with_reducible refine HX.out.mono ?_); rintro e w3 ⟨A2, c2, rfl, ho2, hb2⟩)
          have HY2 := Lib.hid (HY.out.below_ hb2 (Nat.le_refl _))
          have HS := Lib.hid ho2.form_
          have hbr2 := hbr.trans (hb2.mono hbase)
          have hbase2 : w.heap.size ≤ w3.heap.size := hbr2.size
          clear ho2 hb2 HY HX HF hbr
          have dx : w3.cell? ⟨b, off + k, none⟩ = some (.int .i64 x) := DX.out w3 hbr2
          go_wp2_with (at_builtin; go_must (refine wpList_append_bytes _ rfl _ _ rfl rfl w.heap.size _ rfl y HY2.out _ rfl _ (Mt.put (Pk.fold (x - was))) HS.out (by omega) hbase2 ?_; intro A3 c3 w4 hA; have dz : w4.cell? ⟨b, off + k, none⟩ = some (.int .i64 x) := DX.out w4 (hbr2.grown hA.grown hbase2 (fun k hk => (HY2.out.lt_ k hk).1))))
          go_roundw
          case rel => exact ⟨k + 1, y ++ Mt.put (Pk.fold (x - was)), x, by omega, by go_num, rfl, HT2.out, (by simpa [Hid] using hA.own), HE2.out, hbr2.grown hA.grown hbase2 (fun k hk => (HY2.out.lt_ k hk).1)⟩
          case measure => simp [intOf]; omega
        · have HEE : Hid (Pk.putE l = ([], 2)) := by
            unfold Hid
            rw [HPE.out, if_neg (fun h => htk (h x (List.mem_of_getElem? hq)))]
          by_cases hx0 : x < 0
          · clear hq hb hx htk HT HE HPE
            go_wp2
            go_ret2
            exact IsPB.none_b HEE.out rfl hbr
          · have hx1 : 1048575 < x := by unfold Pk.Tok at htk; omega
            clear hq hb hx htk HT HE HPE
            go_wp2
            go_ret2
            exact IsPB.none_b HEE.out rfl hbr
      · have hki : ¬ (k : Int) < (l.length : Int) := by omega
        have hkk : k = l.length := by omega
        have HEE : Hid (Pk.putE l = (y, 0)) := by
          unfold Hid
          have ht : l.take k = l := by rw [hkk, List.take_length]
          rw [HPE.out, HE.out]
          have h2 := HT.out.2.2
          rw [ht] at h2 ⊢
          rw [if_pos h2]
        clear HE HT HPE
        go_wp2
        go_ret2
        exact IsPB.of HEE.out rfl HY.out hbr
end Go.Proofs.Ytkialijipcbgkaa
