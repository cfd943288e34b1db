/-
  NodE: node: Put.
  Turn: What a call turns: a set of blocks; what lies elsewhere stays.
  NodF: node: what is read of a node's bytes (mathematics); the two closures that read.
-/
import Derived.Test.YtlefkaoibokjdaaPc22
import Derived.Test.YtlefkaoibokjdaaPc14
import Derived.Test.YtlefkaoibokjdaaPc02
import Derived.Deep.MidRow
import Derived.Test.YtlefkaoibokjdaaPc12
import Derived.Test.YtlefkaoibokjdaaPc03
import Derived.Test.YtlefkaoibokjdaaPc04
import Derived.Test.YtlefkaoibokjdaaPc07
import Derived.Test.YtlefkaoibokjdaaPc16
namespace Go.Proofs.Ytlefkaoibokjdaa
open Go.RowKit
set_option linter.unusedVariables false
set_option maxHeartbeats 4000000 in
set_option maxRecDepth 100000 in
theorem pnput_any (n : Nd.Node) (v : Value) (B : Nat) (w : World) (hv : NdIs w B v n) (hB : B ≤ w.heap.size) :
    Calls Try.prog 9 #[v] w (IsBE (Nd.putE n) w) := by
  obtain ⟨Ak, ck, Av, cv, Ai, ci, W, rfl, hk8, hW, H0, hbW, hs, hn⟩ := hv.open_ hB
  have HB := Lib.hid hbW
  have H1 := Lib.hid H0
  have CM := Lib.hid (pnmay_any n _ B W hn (by omega))
  have HS := Lib.hid hs
  have HBB := Lib.hid hB
  have c0 := H0.c0
  have c1 := H0.c1
  have c2 := H0.c2
  have c3 := H0.c3
  by_cases hr : Nd.Right n 6 6
  rotate_left
  · have HE : Hid (Nd.putE n = ([], 2)) := if_neg hr
    have e : Nd.may n = false := decide_eq_false hr
    rw [e] at CM
    rw [HE.out]
    clear hv hn H0 hbW hs hB hr e
    unfold ndB at hW
    unfold ndV at *
    go_enter Try.func9, Try.ntmps9
    go_wp2_with fail
    refine CM.out.mono ?_
    rintro e w1 ⟨rfl, b1⟩
    have HB1 := Lib.hid (HB.out.trans (b1.mono HB.out.size))
    clear CM b1
    go_wp2
    go_ret2
    exact ⟨none, 0, rfl, OwnB.nil_ _ _, HB1.out⟩
  have HE : Hid (Nd.putE n = (Nd.bytes n, 0)) := if_pos hr
  have HR := Lib.hid hr
  have e : Nd.may n = true := decide_eq_true hr
  rw [e] at CM
  rw [HE.out]
  have h6 := hr.six
  have wl : IntKind.u64.wrap (n.keys.length : Int) = (n.keys.length : Int) := by rw [IntKind.wrap_u64]; omega
  have HP0 : Hid (∀ w, Calls Try.prog 38 #[.int .u64 (n.keys.length : Nat)] w (IsFresh (Mt.put n.keys.length) w)) := fun w => put_any n.keys.length (by unfold Mt.B64; omega) w
  have H6 := Lib.hid h6
  clear hv hn H0 hbW hs hB e hr
  unfold ndB at hW
  unfold ndV at *
  rcases HR.out.kinds with ⟨hk, hkl, hv0, hk1⟩ | ⟨hk, hvl, hi0⟩
  · have q2 : (((n.kind : Nat) : Int) == 2) = true := by rw [beq_iff_eq]; omega
    have HK2 := Lib.hid hk
    have HKL := Lib.hid hkl
    obtain ⟨bi, oi, xi, hAi, hbi, hxi, hdi, hci⟩ := H1.out.kids.int_ (k := 0) (by omega)
    subst hAi
    have hki := HR.out.kid (i := 0) (by omega)
    rw [List.getD_eq_getElem?_getD, hdi] at hki
    have hki : 2 ≤ xi ∧ xi ≤ 65535 := hki
    have hx0 : Nd.kidAt n 0 = xi.toNat := by unfold Nd.kidAt; rw [List.getD_eq_getElem?_getD, hdi]; rfl
    obtain ⟨m0, rfl⟩ := Int.eq_ofNat_of_zero_le (show 0 ≤ xi by omega)
    rw [Int.toNat_natCast] at hx0
    have w0 : IntKind.u64.wrap (m0 : Int) = (m0 : Int) := by rw [IntKind.wrap_u64]; omega
    have HPK : Hid (∀ w, Calls Try.prog 38 #[.int .u64 (m0 : Nat)] w (IsFresh (Mt.put m0) w)) := fun w => put_any m0 (by unfold Mt.B64; omega) w
    have HX0 := Lib.hid hx0
    have HCI : Hid (∀ w', Below W.heap.size W w' → w'.cell? ⟨bi, oi, none⟩ = some (.int .i64 (m0 : Nat))) := fun w' hb => (hb.cell (p := ⟨bi, oi, none⟩) (by have := HS.out; have := HBB.out; show bi < _; omega)).trans (by simpa using hci)
    have HLI : Hid ((0 : Int) < (n.kids.length : Int)) := by unfold Hid; omega
    clear hk hkl hv0 hk1 hki hx0 hdi hxi hbi hci
    go_enter Try.func9, Try.ntmps9
    go_wp2_with fail
    refine CM.out.mono ?_
    rintro e w1 ⟨rfl, b1⟩
    have hbw1 : Below W.heap.size W w1 := b1
    have HB1 := Lib.hid (HB.out.trans (b1.mono HB.out.size))
    have HBW := Lib.hid hbw1
    have HN1 := Lib.hid (H1.out.below_ hbw1 (by have := HS.out; omega) (by have := HS.out; have := HBB.out; omega))
    have c1a := HN1.out.c1
    have HPA := Lib.hid (HP0.out w1)
    clear CM b1 hbw1 c0 c1 c2 c3
    go_wp2_with fail
    refine HPA.out.mono ?_
    rintro e w2 ⟨A2, k2, rfl, o2, b2⟩
    have HBW2 := Lib.hid (HBW.out.trans (b2.mono HBW.out.size))
    have HO2 : Hid (OwnB w2 W.heap.size (.slice A2 (Mt.put n.keys.length).length k2) (Mt.put n.keys.length)) := o2.mono_ HBW.out.size
    have HB2 := Lib.hid (HB1.out.trans (b2.mono HB1.out.size))
    have HN2 := Lib.hid (H1.out.below_ HBW2.out (by have := HS.out; omega) (by have := HS.out; have := HBB.out; omega))
    have c0b := HN2.out.c0
    have HPLEN := Lib.hid (Mt.put_len_le n.keys.length)
    clear HPA o2 b2 c1a HN1
    have c3b := HN2.out.c3
    have hci2 := HCI.out w2 HBW2.out
    have hli := HLI.out
    have HPB := Lib.hid (HPK.out w2)
    go_wp2_with fail
    refine HPB.out.mono ?_
    rintro e w3 ⟨A3, k3, rfl, o3, b3⟩
    have HX3 := Lib.hid o3.form_
    have HO3 := Lib.hid (HO2.out.below_ b3 (Nat.le_refl _))
    have HBW3 := Lib.hid (HBW2.out.trans (b3.mono HBW2.out.size))
    have hpl3 := Mt.put_len_le m0
    clear HPB o3 b3 c0b c3b hci2 HN2
    go_wp2_with (at_builtin; go_must (refine wpList_append_bytes _ rfl _ _ rfl rfl W.heap.size _ rfl (Mt.put n.keys.length) HO3.out _ rfl _ (Mt.put m0) HX3.out (by have := HPLEN.out; omega) HBW3.out.size ?_))
    intro A4 k4 w4 hA
    have HO4 : Hid (OwnB w4 W.heap.size (.slice A4 (Nd.body n 0).length k4) (Nd.body n 0)) := by
      have e : Nd.body n 0 = Mt.put n.keys.length ++ Mt.put m0 := by show Nd.head n = _; unfold Nd.head; rw [if_pos HK2.out, HX0.out]
      unfold Hid; rw [e]; simpa using hA.own
    have HL4 : Hid ((Mt.put n.keys.length).length + (Mt.put m0).length = (Nd.body n 0).length) := by
      unfold Hid; show _ = (Nd.head n).length; unfold Nd.head; rw [if_pos HK2.out, HX0.out, List.length_append]
    have HBW4 : Hid (Below W.heap.size W w4) := HBW3.out.grown hA.grown HBW3.out.size (fun k hk => (HO3.out.lt_ k hk).1)
    have HN4 := Lib.hid (H1.out.below_ HBW4.out (by have := HS.out; omega) (by have := HS.out; have := HBB.out; omega))
    have c1c := HN4.out.c1
    clear hA hpl3 HX3 HO3
    rw [HL4.out]
    go_wp2
    go_loopw [4, 29] (fun q i wr => ∃ (k : Nat) (A : Option Addr) (c : Nat), k ≤ n.keys.length ∧ i = .int .i64 k ∧ q = .slice A (Nd.body n k).length c ∧ Hid (OwnB wr W.heap.size (.slice A (Nd.body n k).length c) (Nd.body n k)) ∧ Hid (Below W.heap.size W wr)) (fun _ i _ => n.keys.length - (intOf i).toNat)
    case atStart => exact ⟨0, A4, k4, by omega, rfl, rfl, HO4.out, HBW4.out⟩
    case round =>
      obtain ⟨k, A5, c5, hk, rfl, rfl, HO5, HB5⟩ := hrel
      clear HO4 HBW4 HL4 HO2 HB2 HBW2 HBW HB1 HPLEN
      have HNR := Lib.hid (H1.out.below_ HB5.out (by have := HS.out; omega) (by have := HS.out; have := HBB.out; omega))
      by_cases hlt : k < n.keys.length
      rotate_left
      · have ek : k = n.keys.length := by omega
        subst ek
        have hlt2 : ¬ (n.keys.length : Int) < (n.keys.length : Int) := by omega
        have HBF : Hid (Below w.heap.size w wr) := HB.out.trans (HB5.out.mono HB.out.size)
        have HOF : Hid (OwnB wr w.heap.size (.slice A5 (Nd.bytes n).length c5) (Nd.bytes n)) := HO5.out.mono_ (by have := HS.out; omega)
        have HEQ : Hid (Nd.body n n.keys.length = Nd.bytes n) := rfl
        rw [HEQ.out]
        clear hlt hk
        go_wp2
        go_ret2
        exact ⟨A5, c5, rfl, HOF.out, HBF.out⟩
      have hlti : (k : Int) < (n.keys.length : Int) := by omega
      have wk : IntKind.i64.wrap ((k : Int) + 1) = (k : Int) + 1 := by rw [IntKind.wrap_i64]; omega
      obtain ⟨b1, o1, x, hAk, hb1, hx, hd, hcell⟩ := HNR.out.keys.str_ hlt
      have hkey := HR.out.key hlt
      have hxe : n.keys.getD k ByteArray.empty = x := by rw [List.getD_eq_getElem?_getD, hd]; rfl
      rw [hxe] at hkey
      obtain ⟨Ax, cx, Wx, hcv, hbx, hbwx⟩ := conv_oct wr x (by omega)
      have HBX := Lib.hid (HB5.out.trans (hbwx.mono HB5.out.size))
      have HPR := Lib.hid (putRow_any _ (Nd.oct x) _ Wx (Nat.le_refl _) hbx (by rw [Nd.oct_len]; omega))
      have HO6 := Lib.hid (HO5.out.below_ hbwx (Nat.le_refl _))
      have HRL := Lib.hid (Nd.row_len (x := x) hkey.2)
      have HXE := Lib.hid hxe
      have HBL := Lib.hid (Nd.body_len HR.out k (Nat.le_of_lt hlt))
      have HLT := Lib.hid hlt
      subst hAk
      clear hkey hxe hd hx hb1 hbx hbwx HNR HO5 hlt
      go_wp2_with fail
      refine HPR.out.mono ?_
      rintro e w6 ⟨g6, rfl, o6, b6⟩
      have HX6 := Lib.hid o6.form_
      have HO7 := Lib.hid (HO6.out.below_ b6 (Nat.le_refl _))
      have HB6 := Lib.hid (HBX.out.trans (b6.mono HBX.out.size))
      clear HPR o6 b6 HO6 hcv hcell
      go_wp2_with (at_builtin; go_must (refine wpList_append_bytes _ rfl _ _ rfl rfl W.heap.size _ rfl (Nd.body n k) HO7.out _ rfl _ (putRow (Nd.oct x)) HX6.out (by have := HBL.out; have := HRL.out; have := H6.out; have := HLT.out; omega) HB6.out.size ?_))
      intro A8 c8 w8 hA
      have HO8 : Hid (OwnB w8 W.heap.size (.slice A8 (Nd.body n k ++ putRow (Nd.oct x)).length c8) (Nd.body n k ++ putRow (Nd.oct x))) := by unfold Hid; simpa using hA.own
      have HB8 : Hid (Below W.heap.size W w8) := HB6.out.grown hA.grown HB6.out.size (fun k hk => (HO7.out.lt_ k hk).1)
      have HN8 := Lib.hid (H1.out.below_ HB8.out (by have := HS.out; omega) (by have := HS.out; have := HBB.out; omega))
      have c0d := HN8.out.c0
      obtain ⟨L, hL⟩ : ∃ L, Nd.body n k ++ putRow (Nd.oct x) = L := ⟨_, rfl⟩
      rw [hL] at HO8
      have hls : (Nd.body n k).length + (putRow (Nd.oct x)).length = L.length := by rw [← hL, List.length_append]
      rw [hls]
      have HLL := Lib.hid hL
      have HLN : Hid (L.length ≤ 1000) := by unfold Hid; rw [← hL, List.length_append]; have := HBL.out; have := HRL.out; have := H6.out; have := HLT.out; omega
      clear hA HO7 HX6 HB6 HBX hL hls
      have hlk : k + 1 < n.kids.length := by have := HKL.out; have := HLT.out; omega
      obtain ⟨b9, o9, y, hA9, hb9, hy, hd9, hc9⟩ := HN8.out.kids.int_ hlk
      have hky := HR.out.kid hlk
      rw [List.getD_eq_getElem?_getD, hd9] at hky
      have hky : 2 ≤ y ∧ y ≤ 65535 := hky
      have hye : Nd.kidAt n (k + 1) = y.toNat := by unfold Nd.kidAt; rw [List.getD_eq_getElem?_getD, hd9]; rfl
      obtain ⟨my, rfl⟩ := Int.eq_ofNat_of_zero_le (show 0 ≤ y by omega)
      rw [Int.toNat_natCast] at hye
      have wy : IntKind.u64.wrap (my : Int) = (my : Int) := by rw [IntKind.wrap_u64]; omega
      have HPY := Lib.hid (put_any my (by unfold Mt.B64; omega) w8)
      have hlki : (k : Int) + 1 < (n.kids.length : Int) := by omega
      have hk0 : (0 : Int) ≤ (k : Int) + 1 := by omega
      have htn : ((k : Int) + 1).toNat = k + 1 := by omega
      have c3d := HN8.out.c3
      have HYE := Lib.hid hye
      have HPL9 := Lib.hid (Mt.put_len_le my)
      injection hA9 with hA9
      injection hA9 with hA9a hA9b
      subst hA9a hA9b
      clear hye hky hd9 hy hb9 hlk
      go_wp2_with fail
      refine HPY.out.mono ?_
      rintro e w10 ⟨A10, c10, rfl, o10, b10⟩
      have HX10 := Lib.hid o10.form_
      have HO10 := Lib.hid (HO8.out.below_ b10 (Nat.le_refl _))
      have HB10 := Lib.hid (HB8.out.trans (b10.mono HB8.out.size))
      clear HPY o10 b10 c3d hc9 c0d
      go_wp2_with (at_builtin; go_must (refine wpList_append_bytes _ rfl _ _ rfl rfl W.heap.size _ rfl L HO10.out _ rfl _ (Mt.put my) HX10.out (by have := HLN.out; have := HPL9.out; omega) HB10.out.size ?_))
      intro A11 c11 w11 hA11
      have HE11 : Hid (Nd.body n (k + 1) = L ++ Mt.put my) := by
        unfold Hid
        show Nd.body n k ++ Nd.item n k = _
        unfold Nd.item
        rw [if_pos HK2.out, HYE.out, HXE.out, ← List.append_assoc, HLL.out]
      have HB11 : Hid (Below W.heap.size W w11) := HB10.out.grown hA11.grown HB10.out.size (fun k hk => (HO10.out.lt_ k hk).1)
      have HO11 : Hid (OwnB w11 W.heap.size (.slice A11 (Nd.body n (k + 1)).length c11) (Nd.body n (k + 1))) := by unfold Hid; rw [HE11.out]; simpa using hA11.own
      have hl11 : L.length + (Mt.put my).length = (Nd.body n (k + 1)).length := by rw [HE11.out, List.length_append]
      rw [hl11]
      clear hA11 hl11
      go_wp2
      go_roundw
      case rel => exact ⟨k + 1, A11, c11, by have := HLT.out; omega, by go_num, rfl, HO11.out, HB11.out⟩
      case measure => simp [intOf]; have := HLT.out; omega
  · have q2 : (((n.kind : Nat) : Int) == 2) = false := by rw [beq_eq_false_iff_ne]; omega
    have HK1 := Lib.hid hk
    have HVL := Lib.hid hvl
    clear hk hvl hi0
    go_enter Try.func9, Try.ntmps9
    go_wp2_with fail
    refine CM.out.mono ?_
    rintro e w1 ⟨rfl, b1⟩
    have hbw1 : Below W.heap.size W w1 := b1
    have HB1 := Lib.hid (HB.out.trans (b1.mono HB.out.size))
    have HBW := Lib.hid hbw1
    have HN1 := Lib.hid (H1.out.below_ hbw1 (by have := HS.out; omega) (by have := HS.out; have := HBB.out; omega))
    have c1a := HN1.out.c1
    have HPA := Lib.hid (HP0.out w1)
    clear CM b1 hbw1 c0 c1 c2 c3
    go_wp2_with fail
    refine HPA.out.mono ?_
    rintro e w2 ⟨A2, k2, rfl, o2, b2⟩
    have HBW2 := Lib.hid (HBW.out.trans (b2.mono HBW.out.size))
    have HO2 : Hid (OwnB w2 W.heap.size (.slice A2 (Mt.put n.keys.length).length k2) (Mt.put n.keys.length)) := o2.mono_ HBW.out.size
    have HB2 := Lib.hid (HB1.out.trans (b2.mono HB1.out.size))
    have HN2 := Lib.hid (H1.out.below_ HBW2.out (by have := HS.out; omega) (by have := HS.out; have := HBB.out; omega))
    have c0b := HN2.out.c0
    have HPLEN := Lib.hid (Mt.put_len_le n.keys.length)
    clear HPA o2 b2 c1a HN1
    have c1c := HN2.out.c1
    have HO4 : Hid (OwnB w2 W.heap.size (.slice A2 (Nd.body n 0).length k2) (Nd.body n 0)) := by
      have e : Nd.body n 0 = Mt.put n.keys.length := by show Nd.head n = _; unfold Nd.head; rw [if_neg (by have := HK1.out; omega), List.append_nil]
      unfold Hid; rw [e]; exact HO2.out
    have HL4 : Hid ((Mt.put n.keys.length).length = (Nd.body n 0).length) := by
      unfold Hid; show _ = (Nd.head n).length; unfold Nd.head; rw [if_neg (by have := HK1.out; omega), List.append_nil]
    have HBW4 := HBW2
    rw [HL4.out]
    go_wp2
    go_loopw [4, 29] (fun q i wr => ∃ (k : Nat) (A : Option Addr) (c : Nat), k ≤ n.keys.length ∧ i = .int .i64 k ∧ q = .slice A (Nd.body n k).length c ∧ Hid (OwnB wr W.heap.size (.slice A (Nd.body n k).length c) (Nd.body n k)) ∧ Hid (Below W.heap.size W wr)) (fun _ i _ => n.keys.length - (intOf i).toNat)
    case atStart => exact ⟨0, A2, k2, by omega, rfl, rfl, HO4.out, HBW4.out⟩
    case round =>
      obtain ⟨k, A5, c5, hk, rfl, rfl, HO5, HB5⟩ := hrel
      clear HO4 HBW4 HL4 HO2 HB2 HBW2 HBW HB1 HPLEN
      have HNR := Lib.hid (H1.out.below_ HB5.out (by have := HS.out; omega) (by have := HS.out; have := HBB.out; omega))
      by_cases hlt : k < n.keys.length
      rotate_left
      · have ek : k = n.keys.length := by omega
        subst ek
        have hlt2 : ¬ (n.keys.length : Int) < (n.keys.length : Int) := by omega
        have HBF : Hid (Below w.heap.size w wr) := HB.out.trans (HB5.out.mono HB.out.size)
        have HOF : Hid (OwnB wr w.heap.size (.slice A5 (Nd.bytes n).length c5) (Nd.bytes n)) := HO5.out.mono_ (by have := HS.out; omega)
        have HEQ : Hid (Nd.body n n.keys.length = Nd.bytes n) := rfl
        rw [HEQ.out]
        clear hlt hk
        go_wp2
        go_ret2
        exact ⟨A5, c5, rfl, HOF.out, HBF.out⟩
      have hlti : (k : Int) < (n.keys.length : Int) := by omega
      have wk : IntKind.i64.wrap ((k : Int) + 1) = (k : Int) + 1 := by rw [IntKind.wrap_i64]; omega
      obtain ⟨b1, o1, x, hAk, hb1, hx, hd, hcell⟩ := HNR.out.keys.str_ hlt
      have hkey := HR.out.key hlt
      have hxe : n.keys.getD k ByteArray.empty = x := by rw [List.getD_eq_getElem?_getD, hd]; rfl
      rw [hxe] at hkey
      obtain ⟨Ax, cx, Wx, hcv, hbx, hbwx⟩ := conv_oct wr x (by omega)
      have HBX := Lib.hid (HB5.out.trans (hbwx.mono HB5.out.size))
      have HPR := Lib.hid (putRow_any _ (Nd.oct x) _ Wx (Nat.le_refl _) hbx (by rw [Nd.oct_len]; omega))
      have HO6 := Lib.hid (HO5.out.below_ hbwx (Nat.le_refl _))
      have HRL := Lib.hid (Nd.row_len (x := x) hkey.2)
      have HXE := Lib.hid hxe
      have HBL := Lib.hid (Nd.body_len HR.out k (Nat.le_of_lt hlt))
      have HLT := Lib.hid hlt
      subst hAk
      clear hkey hxe hd hx hb1 hbx hbwx HNR HO5 hlt
      go_wp2_with fail
      refine HPR.out.mono ?_
      rintro e w6 ⟨g6, rfl, o6, b6⟩
      have HX6 := Lib.hid o6.form_
      have HO7 := Lib.hid (HO6.out.below_ b6 (Nat.le_refl _))
      have HB6 := Lib.hid (HBX.out.trans (b6.mono HBX.out.size))
      clear HPR o6 b6 HO6 hcv hcell
      go_wp2_with (at_builtin; go_must (refine wpList_append_bytes _ rfl _ _ rfl rfl W.heap.size _ rfl (Nd.body n k) HO7.out _ rfl _ (putRow (Nd.oct x)) HX6.out (by have := HBL.out; have := HRL.out; have := H6.out; have := HLT.out; omega) HB6.out.size ?_))
      intro A8 c8 w8 hA
      have HO8 : Hid (OwnB w8 W.heap.size (.slice A8 (Nd.body n k ++ putRow (Nd.oct x)).length c8) (Nd.body n k ++ putRow (Nd.oct x))) := by unfold Hid; simpa using hA.own
      have HB8 : Hid (Below W.heap.size W w8) := HB6.out.grown hA.grown HB6.out.size (fun k hk => (HO7.out.lt_ k hk).1)
      have HN8 := Lib.hid (H1.out.below_ HB8.out (by have := HS.out; omega) (by have := HS.out; have := HBB.out; omega))
      have c0d := HN8.out.c0
      obtain ⟨L, hL⟩ : ∃ L, Nd.body n k ++ putRow (Nd.oct x) = L := ⟨_, rfl⟩
      rw [hL] at HO8
      have hls : (Nd.body n k).length + (putRow (Nd.oct x)).length = L.length := by rw [← hL, List.length_append]
      rw [hls]
      have HLL := Lib.hid hL
      have HLN : Hid (L.length ≤ 1000) := by unfold Hid; rw [← hL, List.length_append]; have := HBL.out; have := HRL.out; have := H6.out; have := HLT.out; omega
      clear hA HO7 HX6 HB6 HBX hL hls
      have hlk : k < n.vals.length := by have := HVL.out; have := HLT.out; omega
      obtain ⟨b9, o9, y, hA9, hb9, hy, hd9, hc9⟩ := HN8.out.vals.str_ hlk
      have hvy := HR.out.val hlk
      have hye : n.vals.getD k ByteArray.empty = y := by rw [List.getD_eq_getElem?_getD, hd9]; rfl
      rw [hye] at hvy
      obtain ⟨Ay, cy, Wy, hcy, hby, hbwy⟩ := conv_oct w8 y (by omega)
      have HBY := Lib.hid (HB8.out.trans (hbwy.mono HB8.out.size))
      have HPY := Lib.hid (putRow_any _ (Nd.oct y) _ Wy (Nat.le_refl _) hby (by rw [Nd.oct_len]; omega))
      have HO9 := Lib.hid (HO8.out.below_ hbwy (Nat.le_refl _))
      have HPL9 := Lib.hid (Nd.row_len (x := y) hvy)
      have hlki : (k : Int) < (n.vals.length : Int) := by omega
      have hk0 : (0 : Int) ≤ (k : Int) := by omega
      have c2d := HN8.out.c2
      have HYE := Lib.hid hye
      subst hA9
      clear hye hvy hd9 hy hb9 hlk hby hbwy HO8
      go_wp2_with fail
      refine HPY.out.mono ?_
      rintro e w10 ⟨g10, rfl, o10, b10⟩
      have HX10 := Lib.hid o10.form_
      have HO10 := Lib.hid (HO9.out.below_ b10 (Nat.le_refl _))
      have HB10 := Lib.hid (HBY.out.trans (b10.mono HBY.out.size))
      clear HPY o10 b10 c2d hc9 c0d hcy HO9
      go_wp2_with (at_builtin; go_must (refine wpList_append_bytes _ rfl _ _ rfl rfl W.heap.size _ rfl L HO10.out _ rfl _ (putRow (Nd.oct y)) HX10.out (by have := HLN.out; have := HPL9.out; omega) HB10.out.size ?_))
      intro A11 c11 w11 hA11
      have HE11 : Hid (Nd.body n (k + 1) = L ++ putRow (Nd.oct y)) := by
        unfold Hid
        show Nd.body n k ++ Nd.item n k = _
        unfold Nd.item
        rw [if_neg (by have := HK1.out; omega), HYE.out, HXE.out, ← List.append_assoc, HLL.out]
      have HB11 : Hid (Below W.heap.size W w11) := HB10.out.grown hA11.grown HB10.out.size (fun k hk => (HO10.out.lt_ k hk).1)
      have HO11 : Hid (OwnB w11 W.heap.size (.slice A11 (Nd.body n (k + 1)).length c11) (Nd.body n (k + 1))) := by unfold Hid; rw [HE11.out]; simpa using hA11.own
      have hl11 : L.length + (putRow (Nd.oct y)).length = (Nd.body n (k + 1)).length := by rw [HE11.out, List.length_append]
      rw [hl11]
      clear hA11 hl11
      go_wp2
      go_roundw
      case rel => exact ⟨k + 1, A11, c11, by have := HLT.out; omega, by go_num, rfl, HO11.out, HB11.out⟩
      case measure => simp [intOf]; have := HLT.out; omega
end Go.Proofs.Ytlefkaoibokjdaa
namespace Go.Proofs.Ytlefkaoibokjdaa
open Go.RowKit
set_option linter.unusedVariables false

/-- Only blocks of F, and new ones, have been turned. -/
structure Turned (F : Nat → Prop) (w w' : World) : Prop where
  os : w'.os = w.os
  tape : w'.tape = w.tape
  output : w'.output = w.output
  size : w.heap.size ≤ w'.heap.size
  block : ∀ k, k < w.heap.size → ¬ F k → w'.heap[k]? = w.heap[k]?

section
variable {P : Program} {α : Type} {K : El P α} {w w1 w' : World} {F G : Nat → Prop}
theorem Turned.refl (F : Nat → Prop) (w : World) : Turned F w w := ⟨rfl, rfl, rfl, Nat.le_refl _, fun _ _ _ => rfl⟩
theorem Turned.trans (h : Turned F w w1) (h2 : Turned G w1 w') (hFG : ∀ k, k < w.heap.size → G k → F k) : Turned F w w' :=
  ⟨h2.os.trans h.os, h2.tape.trans h.tape, h2.output.trans h.output, Nat.le_trans h.size h2.size, fun k hk hn => (h2.block k (Nat.lt_of_lt_of_le hk h.size) (fun hg => hn (hFG k hk hg))).trans (h.block k hk hn)⟩
theorem Turned.mono (h : Turned F w w') (hFG : ∀ k, k < w.heap.size → F k → G k) : Turned G w w' := ⟨h.os, h.tape, h.output, h.size, fun k hk hn => h.block k hk (fun hf => hn (hFG k hk hf))⟩
theorem Turned.of_below {B : Nat} (h : Below B w w') : Turned (fun k => B ≤ k) w w' := ⟨h.os, h.tape, h.output, h.size, fun k _ hn => h.block k (by omega)⟩
theorem Turned.of_grown {row : Option Nat} (h : w.grownBy w' row) : Turned (fun k => row = some k) w w' := ⟨h.os, h.tape, h.output, h.size, fun k hk hn => h.block k hk (fun e => hn e.symm)⟩
theorem Turned.below (h : Turned F w w') {B : Nat} (hB : B ≤ w.heap.size) (hF : ∀ k, F k → B ≤ k) : Below B w w' := ⟨h.os, h.tape, h.output, h.size, fun k hk => h.block k (by omega) (fun hf => by have := hF k hf; omega)⟩
theorem Turned.cell (h : Turned F w w') {p : Addr} {v : Value} (hc : w.cell? p = some v) (hn : ¬ F p.block) : w'.cell? p = some v :=
  (World.cell?_of_block (h.block p.block (World.block_lt_of_cell? w p hc) hn)).trans hc
theorem Turned.alloc (h : Turned F w w') (o : Obj) : Turned F w (w'.alloc o) := h.trans (G := fun _ => False) (Turned.mono (Turned.of_grown (World.grownBy_alloc w' o none)) (fun k _ h => by cases h)) (fun _ _ h => h.elim)
theorem Turned.setCell (h : Turned F w w') {p : Addr} (hp : p.block < w.heap.size → F p.block) (u : Value) : Turned F w (w'.setCell p u) :=
  ⟨h.os, h.tape, h.output, by simpa using h.size, fun k hk hn => (heap_setCell_other w' p k u (fun e => hn (by subst e; exact hp hk))).trans (h.block k hk hn)⟩
theorem Turned.setRow (h : Turned F w w') {g : Nat} (hg : g < w.heap.size → F g) (cs : Array Value) : Turned F w (w'.setRow g cs) :=
  ⟨h.os, h.tape, h.output, by simpa using h.size, fun k hk hn => (setRow_other w' g k cs (fun e => hn (by subst e; exact hg hk))).trans (h.block k hk hn)⟩
theorem Turned.drew (h : Turned F w w') : Turned F w w'.drew := ⟨h.os, h.tape, h.output, h.size, h.block⟩
theorem Turned.drewN (h : Turned F w w') (n : Nat) : Turned F w (w'.drewN n) := ⟨h.os, h.tape, h.output, h.size, h.block⟩

theorem OwnL.turned_ {base : Nat} {v : Value} {l : List α} (h : OwnL K w base v l) (ht : Turned F w w') (hn : ∀ k, v.ownBlock = some k → ¬ F k) : OwnL K w' base v l :=
  h.of_block fun k hk => ht.block k (h.lt_ k hk).2 (hn k hk)
theorem Lv.turned_ {B : Nat} {v : Value} {l : List α} (h : Lv K w B v l) (ht : Turned F w w') (hn : ∀ k, k < B → ¬ F k) : Lv K w' B v l := by
  obtain ⟨A, c, e, h1, h2, h3, h4, h5⟩ := h
  refine ⟨A, c, e, h1, h2, h3, h4, fun hp => ?_⟩
  obtain ⟨b, off, e, hl, hc⟩ := h5 hp
  exact ⟨b, off, e, hl, fun j u hj => ht.cell (hc j u hj) (hn b hl)⟩
theorem Lv.turnedB_ {B : Nat} {v : Value} {l : List α} (h : Lv K w B v l) (ht : Turned F w w') (hn : 0 < l.length → ∀ k, v.ownBlock = some k → ¬ F k) : Lv K w' B v l := by
  obtain ⟨A, c, e, h1, h2, h3, h4, h5⟩ := h
  refine ⟨A, c, e, h1, h2, h3, h4, fun hp => ?_⟩
  obtain ⟨b, off, eA, hl, hc⟩ := h5 hp
  refine ⟨b, off, eA, hl, fun j u hj => ht.cell (hc j u hj) (hn hp b ?_)⟩
  subst e eA
  rfl
theorem Lv.blk_ {B : Nat} {v : Value} {l : List α} (h : Lv K w B v l) (hp : 0 < l.length) {k : Nat} (hk : v.ownBlock = some k) : k < B := by
  obtain ⟨A, c, e, h1, h2, h3, h4, h5⟩ := h
  obtain ⟨b, off, eA, hl, hc⟩ := h5 hp
  subst e eA
  have e : b = k := Option.some.inj hk
  omega
/-- An element's cells, side by side. -/
theorem Lv.mid_ {A : Option Addr} {n c B : Nat} {l : List α} (h : Lv K w B (.slice A n c) l) {k : Nat} (hk : k < l.length) :
    ∃ b off x, A = some ⟨b, off, none⟩ ∧ b < B ∧ K.ok x ∧ l[k]? = some x ∧ w.rangeAt b (off + k * K.size) (K.enc x) := by
  obtain ⟨b, off, x, h1, h2, h3, h4, h5⟩ := h.at_ hk
  exact ⟨b, off, x, h1, h2, h3, h4, fun j u hj => by rw [Nat.add_assoc]; exact h5 j u hj⟩
/-- A slice's end. -/
theorem Lv.drop_ {A : Option Addr} {n c B : Nat} {l : List α} (h : Lv K w B (.slice A n c) l) {k : Nat} (hk : k ≤ l.length) : Lv K w B (.slice (A.map (·.add (k * K.size))) (n - k) (c - k)) (l.drop k) := by
  obtain ⟨A', c', e, h1, h2, h3, h4, h5⟩ := h
  injection e with e1 e2 e3
  subst e1 e2 e3
  refine ⟨_, _, by rw [List.length_drop], by rw [List.length_drop]; omega, by omega, fun hA => ?_, fun x hx => h4 x (List.mem_of_mem_drop hx), fun hp => ?_⟩
  · cases A with
    | none => have := h3 rfl; omega
    | some a => simp at hA
  · rw [List.length_drop] at hp
    obtain ⟨b, off, rfl, hb, hc⟩ := h5 (by omega)
    refine ⟨b, off + k * K.size, by simp [add_addr], hb, fun j u hj => ?_⟩
    have e : K.flat l = K.flat (l.take k) ++ K.flat (l.drop k) := by rw [← flat_app, List.take_append_drop]
    have e2 : (K.flat (l.take k)).length = k * K.size := by rw [flat_len, List.length_take, Nat.min_eq_left hk]
    have := hc (k * K.size + j) u (by rw [e, List.getElem?_append_right (by omega), e2, Nat.add_sub_cancel_left]; exact hj)
    rw [← Nat.add_assoc] at this
    exact this
end
end Go.Proofs.Ytlefkaoibokjdaa
namespace Go.Proofs.Ytlefkaoibokjdaa
open Go.RowKit
set_option linter.unusedVariables false
namespace Nd
/-- A number is taken off: behind the first error nothing is. -/
def numE (l : List Nat) (s : Nat × Nat) (most : Nat) : Nat × Nat × Nat :=
  if s.2 ≠ 0 then (0, s) else if most < (Mt.get l s.1).1 then (0, (Mt.get l s.1).2.1, 3) else Mt.get l s.1
def rowE (l : List Nat) (s : Nat × Nat) (most : Nat) : List Nat × Nat × Nat := if s.2 ≠ 0 then ([], s) else Mt.getRow l s.1 most
def stepE (l : List Nat) (x : Node × Nat × Nat) : Node × Nat × Nat :=
  if x.1.kind = 2 then ({ x.1 with keys := x.1.keys ++ [bstr (rowE l x.2 40).1], kids := x.1.kids ++ [((numE l (rowE l x.2 40).2 65535).1 : Int)] }, (numE l (rowE l x.2 40).2 65535).2)
  else ({ x.1 with keys := x.1.keys ++ [bstr (rowE l x.2 40).1], vals := x.1.vals ++ [bstr (rowE l (rowE l x.2 40).2 40).1] }, (rowE l (rowE l x.2 40).2 40).2)
def loopE (l : List Nat) (x : Node × Nat × Nat) : Nat → Node × Nat × Nat
  | 0 => x
  | k + 1 => stepE l (loopE l x k)
def startE (kind : Nat) (l : List Nat) : Node × Nat × Nat :=
  if kind = 2 then (⟨2, [], [], [((numE l (numE l (0, 0) 6).2 65535).1 : Int)]⟩, (numE l (numE l (0, 0) 6).2 65535).2) else (⟨kind, [], [], []⟩, (numE l (0, 0) 6).2)
def readE (kind : Nat) (l : List Nat) : Node × Nat × Nat := loopE l (startE kind l) (numE l (0, 0) 6).1
def getE (kind : Nat) (l : List Nat) : Node × Nat :=
  if kind ≠ 1 ∧ kind ≠ 2 then (zero, 2) else if (readE kind l).2.2 ≠ 0 then (zero, (readE kind l).2.2)
  else if (readE kind l).2.1 < l.length ∨ ¬ Right (readE kind l).1 6 6 then (zero, 5) else ((readE kind l).1, 0)
theorem numE_le {l : List Nat} {s : Nat × Nat} {most : Nat} : (numE l s most).1 ≤ most := by
  unfold numE
  split
  · exact Nat.zero_le _
  · split
    · exact Nat.zero_le _
    · rename_i h; omega
end Nd
theorem conv_str0 (A : Option Addr) (c : Nat) (w : World) : (convert 27 9 (.slice A 0 c)).run Try.prog w = .ok (.string (bstr [])) w := by
  rw [run_convert_bytes_string (P := Try.prog) w 27 9 5 A 0 c Try.underlying27 Try.underlying5 Try.underlying9]
  cases A with
  | none => kernel_rfl
  | some a => exact run_bytesToString w a 0 c [] rfl
/-- What the closures that read share: the bytes, the place, the error, each in a box. -/
structure RdSt (w : World) (B gb ga ge : Nat) (v : Value) (l : List Nat) (s : Nat × Nat) : Prop where
  rb : Rw w gb 27 #[v]
  ra : Rw w ga 3 #[.int .i64 (s.1 : Nat)]
  re : Rw w ge 28 #[.int .i64 (s.2 : Nat)]
  v : Bv w B v l
  low : B ≤ gb ∧ B ≤ ga ∧ B ≤ ge
  ne : gb ≠ ga ∧ gb ≠ ge ∧ ga ≠ ge
section
variable {w w' : World} {B gb ga ge : Nat} {v : Value} {l : List Nat} {s : Nat × Nat}
theorem RdSt.below (h : RdSt w B gb ga ge v l s) {n : Nat} (hb : Below n w w') (hB : B ≤ n) (h1 : gb < n) (h2 : ga < n) (h3 : ge < n) : RdSt w' B gb ga ge v l s :=
  ⟨h.rb.below hb h1, h.ra.below hb h2, h.re.below hb h3, h.v.below_ hb hB, h.low, h.ne⟩
theorem RdSt.lts (h : RdSt w B gb ga ge v l s) : gb < w.heap.size ∧ ga < w.heap.size ∧ ge < w.heap.size := ⟨h.rb.lt, h.ra.lt, h.re.lt⟩
theorem RdSt.same (h : RdSt w B gb ga ge v l s) (hb : Below w.heap.size w w') : RdSt w' B gb ga ge v l s := by
  obtain ⟨h1, h2, h3⟩ := h.lts
  have := h.low
  exact h.below hb (by omega) h1 h2 h3
theorem Rw.one_put {w : World} {g : Nat} {t : TypeId} {x : Value} (h : Rw w g t #[x]) (y : Value) : Rw (w.setCell ⟨g, 0, none⟩ y) g t #[y] := by
  have := h.set 0 y
  simpa using this
/-- The place and the error become others. -/
theorem RdSt.put (h : RdSt w B gb ga ge v l s) (a e : Nat) : RdSt ((w.setCell ⟨ga, 0, none⟩ (.int .i64 (a : Nat))).setCell ⟨ge, 0, none⟩ (.int .i64 (e : Nat))) B gb ga ge v l (a, e) := by
  obtain ⟨n1, n2, n3⟩ := h.ne
  refine ⟨(h.rb.setOther n1 0 _).setOther n2 0 _, (h.ra.one_put _).setOther n3 0 _, (h.re.setOther (Ne.symm n3) 0 _).one_put _, ?_, h.low, h.ne⟩
  have hl := h.low
  exact h.v.below_ (((Below.refl B w).setCell (p := ⟨ga, 0, none⟩) hl.2.1 _).setCell (p := ⟨ge, 0, none⟩) hl.2.2 _) (Nat.le_refl _)
theorem RdSt.err (h : RdSt w B gb ga ge v l s) (e : Nat) : RdSt (w.setCell ⟨ge, 0, none⟩ (.int .i64 (e : Nat))) B gb ga ge v l (s.1, e) := by
  obtain ⟨n1, n2, n3⟩ := h.ne
  refine ⟨h.rb.setOther n2 0 _, h.ra.setOther n3 0 _, h.re.one_put _, ?_, h.low, h.ne⟩
  exact h.v.below_ ((Below.refl B w).setCell (p := ⟨ge, 0, none⟩) h.low.2.2 _) (Nat.le_refl _)
/-- What a closure that reads answers and turns. -/
def IsRd (x : Value) (B gb ga ge : Nat) (v : Value) (l : List Nat) (s : Nat × Nat) (w : World) (e : Ending) (w' : World) : Prop :=
  e = .returned x ∧ RdSt w' B gb ga ge v l s ∧ Turned (fun q => q = ga ∨ q = ge) w w'
set_option maxHeartbeats 2000000 in
set_option maxRecDepth 100000 in
theorem prdnum_any (most : Nat) (hm : most ≤ 65535) (h : RdSt w B gb ga ge v l s) :
    Calls Try.prog 65 #[.int .u64 (most : Nat), .pointer (some ⟨ge, 0, none⟩), .pointer (some ⟨gb, 0, none⟩), .pointer (some ⟨ga, 0, none⟩)] w (IsRd (.int .i64 ((Nd.numE l s most).1 : Nat)) B gb ga ge v l (Nd.numE l s most).2 w) := by
  obtain ⟨a, er⟩ := s
  have H := Lib.hid h
  have ce : w.cell? ⟨ge, 0, none⟩ = some (.int .i64 (er : Nat)) := h.re.cell 0
  by_cases he : er = 0
  · subst he
    have ca : w.cell? ⟨ga, 0, none⟩ = some (.int .i64 (a : Nat)) := h.ra.cell 0
    have cb : w.cell? ⟨gb, 0, none⟩ = some v := h.rb.cell 0
    have HG := Lib.hid (get_any v l B (a : Int) w h.v)
    obtain ⟨⟨x, a1, e1⟩, hx⟩ : ∃ r, Mt.get l a = r := ⟨_, rfl⟩
    rw [hx] at HG
    have HX := Lib.hid hx
    clear hx h
    go_enter Try.func65, Try.ntmps65
    go_wp2_with fail
    refine HG.out.mono ?_
    rintro e w1 ⟨rfl, b1⟩
    have H1 := Lib.hid (H.out.same b1)
    have T1 : Hid (Turned (fun q => q = ga ∨ q = ge) w w1) := (Turned.of_below b1).mono (fun q h1 h2 => by have := H.out.lts; omega)
    obtain ⟨w2, hw2⟩ : ∃ w2, w1.setCell ⟨ga, 0, none⟩ (.int .i64 (a1 : Nat)) = w2 := ⟨_, rfl⟩
    obtain ⟨w3, hw3⟩ : ∃ w3, w2.setCell ⟨ge, 0, none⟩ (.int .i64 (e1 : Nat)) = w3 := ⟨_, rfl⟩
    have ca1 : w1.cell? ⟨ga, 0, none⟩ = some (.int .i64 (a : Nat)) := H1.out.ra.cell 0
    have fa1 : w1.frozen? ⟨ga, 0, none⟩ = false := H1.out.ra.frozen 0
    have re2 : Rw w2 ge 28 #[.int .i64 ((0 : Nat) : Int)] := by rw [← hw2]; exact H1.out.re.setOther (Ne.symm H1.out.ne.2.2) 0 _
    have ce2 : w2.cell? ⟨ge, 0, none⟩ = some (.int .i64 ((0 : Nat) : Int)) := re2.cell 0
    have fe2 : w2.frozen? ⟨ge, 0, none⟩ = false := re2.frozen 0
    have H3 : Hid (RdSt w3 B gb ga ge v l (a1, e1)) := by unfold Hid; rw [← hw3, ← hw2]; exact H1.out.put a1 e1
    have T3 : Hid (Turned (fun q => q = ga ∨ q = ge) w w3) := by unfold Hid; rw [← hw3, ← hw2]; exact (T1.out.setCell (p := ⟨ga, 0, none⟩) (fun _ => .inl rfl) _).setCell (p := ⟨ge, 0, none⟩) (fun _ => .inr rfl) _
    clear b1 HG re2 ca cb ce
    by_cases hxm : most < x
    · have hxi : (most : Int) < (x : Int) := by omega
      have HE : Hid (Nd.numE l (a, 0) most = (0, a1, 3)) := by unfold Hid Nd.numE; rw [if_neg (by simp), HX.out, if_pos hxm]
      obtain ⟨w4, hw4⟩ : ∃ w4, w3.setCell ⟨ge, 0, none⟩ (.int .i64 3) = w4 := ⟨_, rfl⟩
      have ce3 : w3.cell? ⟨ge, 0, none⟩ = some (.int .i64 (e1 : Nat)) := H3.out.re.cell 0
      have fe3 : w3.frozen? ⟨ge, 0, none⟩ = false := H3.out.re.frozen 0
      have H4 : Hid (RdSt w4 B gb ga ge v l (a1, 3)) := by unfold Hid; rw [← hw4]; exact H3.out.err 3
      have T4 : Hid (Turned (fun q => q = ga ∨ q = ge) w w4) := by unfold Hid; rw [← hw4]; exact T3.out.setCell (p := ⟨ge, 0, none⟩) (fun _ => .inr rfl) _
      clear hxm
      go_wp2
      go_ret
      exact ⟨by rw [HE.out]; rfl, by rw [HE.out]; exact H4.out, T4.out⟩
    · have hxi : ¬ (most : Int) < (x : Int) := by omega
      have HE : Hid (Nd.numE l (a, 0) most = (x, a1, e1)) := by unfold Hid Nd.numE; rw [if_neg (by simp), HX.out, if_neg hxm]
      have wx : IntKind.i64.wrap (x : Int) = (x : Int) := by rw [IntKind.wrap_i64]; omega
      clear hxm
      go_wp2
      go_ret
      exact ⟨by rw [HE.out]; rfl, by rw [HE.out]; exact H3.out, T3.out⟩
  · have heq : ((er : Int) == 0) = false := by rw [beq_eq_false_iff_ne]; omega
    have HE : Hid (Nd.numE l (a, er) most = (0, a, er)) := if_pos he
    have hm0 : ¬ (most : Int) < 0 := by omega
    rw [HE.out]
    clear h he
    go_enter Try.func65, Try.ntmps65
    go_wp2
    go_ret
    exact ⟨rfl, H.out, Turned.refl _ _⟩
set_option maxHeartbeats 2000000 in
set_option maxRecDepth 100000 in
theorem prdrow_any (most : Nat) (hm : most ≤ 65535) (h : RdSt w B gb ga ge v l s) (hsz : l.length ≤ 140737488355328) :
    Calls Try.prog 67 #[.int .i64 (most : Nat), .pointer (some ⟨ge, 0, none⟩), .pointer (some ⟨gb, 0, none⟩), .pointer (some ⟨ga, 0, none⟩)] w (IsRd (.string (bstr (Nd.rowE l s most).1)) B gb ga ge v l (Nd.rowE l s most).2 w) := by
  obtain ⟨a, er⟩ := s
  have H := Lib.hid h
  have ce : w.cell? ⟨ge, 0, none⟩ = some (.int .i64 (er : Nat)) := h.re.cell 0
  have hB : B ≤ w.heap.size := by have := h.low; have := h.lts; omega
  by_cases he : er = 0
  · subst he
    have ca : w.cell? ⟨ga, 0, none⟩ = some (.int .i64 (a : Nat)) := h.ra.cell 0
    have cb : w.cell? ⟨gb, 0, none⟩ = some v := h.rb.cell 0
    have HG := Lib.hid (getRow_any v l B (a : Int) (most : Int) w hB h.v (by omega) hsz)
    have HE : Hid (Nd.rowE l (a, 0) most = Mt.getRow l a most) := if_neg (by simp)
    obtain ⟨⟨r, a1, e1⟩, hx⟩ : ∃ r, Mt.getRow l a most = r := ⟨_, rfl⟩
    rw [hx] at HG HE
    rw [HE.out]
    clear hx h hB HE
    go_enter Try.func67, Try.ntmps67
    go_wp2_with fail
    refine HG.out.mono ?_
    rintro e w1 ⟨A1, rfl, o1, b1⟩
    have HO1 := Lib.hid o1.form_
    have H1 := Lib.hid (H.out.same b1)
    have T1 : Hid (Turned (fun q => q = ga ∨ q = ge) w w1) := (Turned.of_below b1).mono (fun q h1 h2 => by have := H.out.lts; omega)
    obtain ⟨w2, hw2⟩ : ∃ w2, w1.setCell ⟨ga, 0, none⟩ (.int .i64 (a1 : Nat)) = w2 := ⟨_, rfl⟩
    obtain ⟨w3, hw3⟩ : ∃ w3, w2.setCell ⟨ge, 0, none⟩ (.int .i64 (e1 : Nat)) = w3 := ⟨_, rfl⟩
    have ca1 : w1.cell? ⟨ga, 0, none⟩ = some (.int .i64 (a : Nat)) := H1.out.ra.cell 0
    have fa1 : w1.frozen? ⟨ga, 0, none⟩ = false := H1.out.ra.frozen 0
    have re2 : Rw w2 ge 28 #[.int .i64 ((0 : Nat) : Int)] := by rw [← hw2]; exact H1.out.re.setOther (Ne.symm H1.out.ne.2.2) 0 _
    have ce2 : w2.cell? ⟨ge, 0, none⟩ = some (.int .i64 ((0 : Nat) : Int)) := re2.cell 0
    have fe2 : w2.frozen? ⟨ge, 0, none⟩ = false := re2.frozen 0
    have H3 : Hid (RdSt w3 B gb ga ge v l (a1, e1)) := by unfold Hid; rw [← hw3, ← hw2]; exact H1.out.put a1 e1
    have T3 : Hid (Turned (fun q => q = ga ∨ q = ge) w w3) := by unfold Hid; rw [← hw3, ← hw2]; exact (T1.out.setCell (p := ⟨ga, 0, none⟩) (fun _ => .inl rfl) _).setCell (p := ⟨ge, 0, none⟩) (fun _ => .inr rfl) _
    have T13 : Turned (fun q => q = ga ∨ q = ge) w1 w3 := by rw [← hw3, ← hw2]; exact ((Turned.refl (fun q => q = ga ∨ q = ge) w1).setCell (p := ⟨ga, 0, none⟩) (fun _ => .inl rfl) _).setCell (p := ⟨ge, 0, none⟩) (fun _ => .inr rfl) _
    have hX3 : Lv yK w3 w1.heap.size (.slice A1 r.length r.length) r := HO1.out.lv_.turnedB_ T13 (fun _ k hk hq => by have h1 := (o1.lt_ k hk).1; have h2 := H.out.lts; omega)
    have hcv : (convert 27 9 (.slice A1 r.length r.length)).run Try.prog w3 = .ok (.string (bstr r)) w3 := by
      by_cases hr0 : 0 < r.length
      · exact conv_str hX3 hr0
      · have : r = [] := List.eq_nil_of_length_eq_zero (by omega)
        subst this
        exact conv_str0 _ _ _
    clear b1 HG re2 ca cb ce o1 hX3 T13
    go_wp2
    go_ret
    exact ⟨rfl, H3.out, T3.out⟩
  · have heq : ((er : Int) == 0) = false := by rw [beq_eq_false_iff_ne]; omega
    have HE : Hid (Nd.rowE l (a, er) most = ([], a, er)) := if_pos he
    have hcv := conv_str0 none 0 w
    rw [HE.out]
    clear h he hB
    go_enter Try.func67, Try.ntmps67
    go_wp2
    go_ret
    exact ⟨rfl, H.out, Turned.refl _ _⟩
end
end Go.Proofs.Ytlefkaoibokjdaa
