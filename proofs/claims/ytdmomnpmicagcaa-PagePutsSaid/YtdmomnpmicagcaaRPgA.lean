/-
  stookref15.Put.
-/
import Derived.Test.YtdmomnpmicagcaaPgMath
import Derived.Test.YtdmomnpmicagcaaRFour
import Derived.Test.YtdmomnpmicagcaaCMore
import Derived.Test.YtdmomnpmicagcaaBvLv
namespace Go.Proofs.Ytdmomnpmicagcaa
open Go.RowKit
set_option linter.unusedVariables false

/-- A slice's length. -/
def lenS : Value → Nat
  | .slice _ n _ => n
  | _ => 0

set_option maxHeartbeats 2000000 in
set_option maxRecDepth 100000 in
theorem rpgput_any (n : Int) (k : Nat) (v : Value) (b : List Nat) (B : Nat) (w : World) (hk : k < 256) (hv : Lv yK w B v b) (hB : B ≤ w.heap.size) :
    Calls Try.prog 8 #[.int .i64 n, .int .u8 (k : Nat), v] w (IsLE yK (Pg.putE n k b) w) := by
  have HV := Lib.hid hv
  have hb8 : ∀ x ∈ b, x < 256 := fun x hx => hv.ok_ x hx
  have HR8 := Lib.hid (Pg.rest_lt (n := n.toNat) hk hb8)
  have HBB := Lib.hid hB
  have HK := Lib.hid hk
  obtain ⟨A, c, rfl, k1, k2, -, -, -⟩ := hv
  have hll : b.length ≤ 9223372036854775807 := by simp only [maxLen] at k2; omega
  clear k1 k2 hb8 hB hk
  by_cases h0 : n < 0
  · have HE := Lib.hid (Pg.putE_arg (k := k) (b := b) (.inl h0))
    go_enter Try.func8, Try.ntmps8
    go_wp2
    go_ret2
    exact IsLE.none_b HE.out rfl (Below.refl _ _)
  · by_cases h1 : 65536 ≤ n
    · have HE := Lib.hid (Pg.putE_arg (k := k) (b := b) (.inr h1))
      go_enter Try.func8, Try.ntmps8
      go_wp2
      go_ret2
      exact IsLE.none_b HE.out rfl (Below.refl _ _)
    · by_cases h2 : 496 < b.length
      · have HE := Lib.hid (Pg.putE_lim (n := n) (k := k) (b := b) (by omega) h2)
        have h2i : (496 : Int) < (b.length : Int) := by omega
        clear h2
        go_enter Try.func8, Try.ntmps8
        go_wp2
        go_ret2
        exact IsLE.none_b HE.out rfl (Below.refl _ _)
      · have HE := Lib.hid (Pg.putE_ok (n := n) (k := k) (b := b) (by omega) h2)
        obtain ⟨N, rfl⟩ := Int.eq_ofNat_of_zero_le (show 0 ≤ n by omega)
        rw [Int.toNat_natCast] at HE HR8
        have hN : N < 65536 := by omega
        have h2i : ¬ (496 : Int) < (b.length : Int) := by omega
        obtain ⟨a0, e0⟩ : ∃ x, N % 256 = x := ⟨_, rfl⟩
        obtain ⟨a1, e1⟩ : ∃ x, N / 256 % 256 = x := ⟨_, rfl⟩
        obtain ⟨a2, e2⟩ : ∃ x, N / 65536 % 256 = x := ⟨_, rfl⟩
        obtain ⟨a3, e3⟩ : ∃ x, N / 16777216 % 256 = x := ⟨_, rfl⟩
        obtain ⟨a6, e6⟩ : ∃ x, b.length % 256 = x := ⟨_, rfl⟩
        obtain ⟨a7, e7⟩ : ∃ x, b.length / 256 % 256 = x := ⟨_, rfl⟩
        have HH : Hid (Pg.head N k b.length = [a0, a1, a2, a3, k, 0, a6, a7]) := by unfold Hid Pg.head; rw [e0, e1, e2, e3, e6, e7]
        have i0 : (N : Int) % 256 = (a0 : Nat) := by omega
        have i1 : (N : Int) / 256 % 256 = (a1 : Nat) := by omega
        have i2 : (N : Int) / 65536 % 256 = (a2 : Nat) := by omega
        have i3 : (N : Int) / 16777216 % 256 = (a3 : Nat) := by omega
        have i6 : (b.length : Int) % 256 = (a6 : Nat) := by omega
        have i7 : (b.length : Int) / 256 % 256 = (a7 : Nat) := by omega
        have j1 : (N : Int) / 256 = (a1 : Nat) := by omega
        have j2 : (N : Int) / 65536 = (a2 : Nat) := by omega
        have j3 : (N : Int) / 16777216 = (a3 : Nat) := by omega
        have j7 : (b.length : Int) / 256 = (a7 : Nat) := by omega
        have hn0 : ¬ (N : Int) < 0 := by omega
        have hn1 : ¬ 65536 ≤ (N : Int) := by omega
        have h8 : ∀ x ∈ [a0, a1, a2, a3, k, 0, a6, a7], yK.ok x := fun x hx => by
          have := HK.out
          simp only [List.mem_cons, List.not_mem_nil, or_false] at hx
          show x < 256
          rcases hx with rfl | rfl | rfl | rfl | rfl | rfl | rfl | rfl <;> omega
        have hla := Lv.build_ yK w _ h8 (by simp [maxLen]) 8 rfl _ rfl _ rfl
        have hab := (Below.refl w.heap.size w).alloc (Nat.le_refl _) (.cells #[.int .u8 (a0 : Nat), .int .u8 (a1 : Nat), .int .u8 (a2 : Nat), .int .u8 (a3 : Nat), .int .u8 (k : Nat), .int .u8 0, .int .u8 (a6 : Nat), .int .u8 (a7 : Nat)] 5)
        obtain ⟨Y, hY⟩ : ∃ Y, w.alloc (.cells #[.int .u8 (a0 : Nat), .int .u8 (a1 : Nat), .int .u8 (a2 : Nat), .int .u8 (a3 : Nat), .int .u8 (k : Nat), .int .u8 0, .int .u8 (a6 : Nat), .int .u8 (a7 : Nat)] 5) = Y := ⟨_, rfl⟩
        change Lv yK (w.alloc (.cells #[.int .u8 (a0 : Nat), .int .u8 (a1 : Nat), .int .u8 (a2 : Nat), .int .u8 (a3 : Nat), .int .u8 (k : Nat), .int .u8 0, .int .u8 (a6 : Nat), .int .u8 (a7 : Nat)] 5)) _ _ _ at hla
        rw [hY] at hla hab
        have HLA := Lib.hid hla
        have HAB := Lib.hid hab
        have HBL : Hid (b.length ≤ 496) := by unfold Hid; omega
        have HRL := Lib.hid (Pg.rest_len (n := N) (k := k) HBL.out)
        obtain ⟨H, hH⟩ : ∃ H, [a0, a1, a2, a3, k, 0, a6, a7] = H := ⟨_, rfl⟩
        have hHl : H.length = 8 := by rw [← hH]; rfl
        rw [hH] at HH HLA
        have HHL := Lib.hid hHl
        have hVY := HV.out.below_ HAB.out HBB.out
        have HVY := Lib.hid hVY
        clear hla hab h8 e0 e1 e2 e3 e6 e7 h0 h1 h2 hH hHl hVY
        go_enter Try.func8, Try.ntmps8
        have HYS : Hid (w.heap.size ≤ Y.heap.size) := HAB.out.size
        go_wp2_with (first
          | (at_builtin; (refine wpList_append_l _ yK rfl (.tmp 19) (.tmp 39) rfl w.heap.size _ rfl [] (OwnL.nil_ _ _ _) _ rfl _ H HLA.out (by have := HHL.out; show _ * 1 ≤ _; simp; omega) (by have := HHL.out; simp [maxLen]; omega) HYS.out ?_; intro A1 c1 w1 hA0 hG1; have hA1 : OwnL yK w1 w.heap.size (.slice A1 H.length c1) H := hA0; clear hA0; have hb1 := (Below.refl w.heap.size Y).grown hG1 HYS.out (fun k hk => (by cases hk)); have hz1 : w.heap.size ≤ w1.heap.size := Nat.le_trans HYS.out hb1.size; have HV1 := HVY.out.below_ hb1 HBB.out))
          | (at_builtin; go_must (refine wpList_append_l _ yK rfl (.tmp 41) (.tmp 42) rfl w.heap.size _ rfl H hA1 _ rfl _ b HV1 (by have := HHL.out; have := HBL.out; show _ * 1 ≤ _; simp; omega) (by have := HHL.out; have := HBL.out; simp [maxLen]; omega) hz1 ?_; intro A2 c2 w2 hA2 hG2)))
        have hb2 := (Below.refl w.heap.size w1).grown hG2 hz1 (fun k hk => (hA1.lt_ k hk).1)
        have HB2 := Lib.hid (HAB.out.trans (hb1.trans hb2))
        obtain ⟨L, hL⟩ : ∃ L, H ++ b = L := ⟨_, rfl⟩
        have hLl : L.length = 8 + b.length := by rw [← hL]; have := HHL.out; simp; omega
        have HLR : Hid (∀ j, L ++ List.replicate j 0 = Pg.head N k b.length ++ b ++ List.replicate j 0) := fun j => by rw [HH.out, ← hL]
        rw [hL] at hA2
        rw [← List.length_append, hL]
        have HO2 := Lib.hid hA2
        have HLL := Lib.hid hLl
        clear hA1 hG1 hb1 hz1 HV1 hA2 hG2 hb2 hL hLl HVY HLA HAB HYS HV hY
        go_loopw [8] (fun s wr => ∃ (j : Nat) (A5 : Option Addr) (c5 : Nat) (l : List Nat), Hid (l = L ++ List.replicate j 0) ∧ l.length = 8 + b.length + j ∧ j ≤ 500 - b.length ∧ s = .slice A5 l.length c5 ∧ Hid (OwnL yK wr w.heap.size (.slice A5 l.length c5) l) ∧ Hid (Below w.heap.size w wr)) (fun s _ => 508 - lenS s)
        case atStart => exact ⟨0, A2, c2, L, by simp [Hid], by have := HLL.out; omega, by omega, rfl, HO2.out, HB2.out⟩
        case round =>
          obtain ⟨j, A5, c5, l, HL, hln, hj, rfl, HO, HB⟩ := hrel
          clear HO2 HB2
          have hbl := HBL.out
          by_cases hlt : l.length < 508
          · have hli : (l.length : Int) < 508 := by omega
            have HZ : Hid (w.heap.size ≤ wr.heap.size) := HB.out.size
            have HLN := Lib.hid hln
            clear hln hj
            go_wp2_with (at_builtin; go_must (refine wpList_push_l _ yK rfl _ _ rfl w.heap.size _ rfl l HO.out rfl 0 (show (0 : Nat) < 256 by omega) _ rfl _ rfl (by show _ * 1 ≤ _; omega) (by simp only [maxLen]; omega) HZ.out ?_; intro A6 c6 w6 hA6 hG6))
            go_roundw
            case rel =>
              have hl1 : (l ++ [0]).length = l.length + 1 := by simp
              have hln := HLN.out
              refine ⟨j + 1, A6, c6, l ++ [0], ?_, by omega, by omega, by rw [hl1], by rw [hl1]; exact hA6, HB.out.grown hG6 HZ.out (fun k hk => (HO.out.lt_ k hk).1)⟩
              unfold Hid
              rw [HL.out, List.append_assoc, List.replicate_succ']
            case measure => simp [lenS]; omega
          · have hli : ¬ (l.length : Int) < 508 := by omega
            have HPR : Hid (l = Pg.rest N k b) := by
              unfold Hid
              rw [HL.out, HLR.out j, show j = 500 - b.length by omega]; rfl
            have h508 : l.length = 508 := by omega
            have HS := Lib.hid (rof_any _ l wr.heap.size wr HO.out.form_.bv_)
            have HL5 := Lib.hid h508
            obtain ⟨n4, hn4⟩ : ∃ n, Cr.of l = n := ⟨_, rfl⟩
            have hn32 : Cr.B32 n4 := by rw [← hn4, HPR.out]; exact Cr.of_b32 HR8.out
            have HPG : Hid (Pg.page N k b = four n4 ++ l) := by unfold Hid Pg.page; rw [← HPR.out, hn4]
            rw [hn4] at HS
            have HF := Lib.hid (rfour_any n4 hn32 wr)
            have HZ : Hid (w.heap.size ≤ wr.heap.size) := HB.out.size
            clear hln hj h508 hn4 hn32 HR8 HLR HL HPR HRL
            go_wp2_with fail
            refine HS.out.mono ?_
            rintro e w3 ⟨rfl, rfl⟩
            go_wp2_with fail
            refine HF.out.mono ?_
            rintro e w4 ⟨A7, c7, rfl, o7, b7⟩
            have HB4 := Lib.hid (HB.out.trans (b7.mono HZ.out))
            have HO4 := Lib.hid (o7.mono_ HZ.out)
            have HL4 := Lib.hid (HO.out.below_ b7 (Nat.le_refl _)).form_
            obtain ⟨F, hF⟩ : ∃ F, four n4 = F := ⟨_, rfl⟩
            have hF4 : F.length = 4 := by rw [← hF]; rfl
            rw [hF] at HO4 HPG ⊢
            have HF4 := Lib.hid hF4
            clear HS HF o7 b7 hF hF4
            go_wp2_with (at_builtin; go_must (refine wpList_append_l _ yK rfl _ _ rfl w.heap.size _ rfl F HO4.out _ rfl _ l HL4.out (by have := HF4.out; have := HL5.out; show _ * 1 ≤ _; omega) (by have := HF4.out; have := HL5.out; simp only [maxLen]; omega) HB4.out.size ?_; intro A8 c8 w8 hA8 hG8))
            go_ret2
            have hB8 := HB4.out.grown hG8 HB4.out.size (fun k hk => (HO4.out.lt_ k hk).1)
            have hfl : F.length + l.length = (F ++ l).length := by simp
            rw [← hfl] at hA8
            exact IsLE.of (HE.out.trans (by rw [HPG.out])) hfl rfl hA8 hB8
end Go.Proofs.Ytdmomnpmicagcaa
