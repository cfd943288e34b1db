/-
  SimfsFresh: what is handed in stays, the room behind it, too, and is not kept; what is answered is new memory. No condition.
-/
import Derived.Test.YtmcbjcbnckpfkaaPk24
import Derived.Test.YtmcbjcbnckpfkaaPk25
import Derived.Test.YtmcbjcbnckpfkaaPk23
import Derived.Test.YtmcbjcbnckpfkaaPk11
import Derived.Test.YtmcbjcbnckpfkaaPk03
import Derived.Test.YtmcbjcbnckpfkaaPk28
import Derived.Test.YtmcbjcbnckpfkaaPk29
import Derived.Test.YtmcbjcbnckpfkaaPk30
import Derived.Deep.WholeRow
namespace Go.Proofs.Ytmcbjcbnckpfkaa.simfsFresh
open Go.ChangeShapes Go.WideShapes Go.ChangeAt Go.RowKit
open Go.ChangeMaps (open_string shut_string)
set_option linter.unusedVariables false

set_option maxHeartbeats 4000000 in
set_option maxRecDepth 100000 in
theorem walk (w : World) (v0 : Value) (l0 : List Nat) (h0 : Lv yK w w.heap.size v0 l0) (a1 : Int) (w1 : (Lit.int .i64 a1).wf = true) :
    Calls Try.prog 6 #[v0, .int .i64 a1] w (IsBool true w) := by
  have H0 := Lib.hid h0
  have hml0 : l0.length ≤ 9223372036854775807 := by have := h0; obtain ⟨_, _, _, h2, h3, _⟩ := this; simp only [maxLen] at h3; omega
  obtain ⟨A0, c0, hv, _⟩ := h0
  subst hv
  clear w1
  by_cases hbig : (10000 : Int) < (l0.length : Int)
  · go_enter Try.func6, Try.ntmps6
    have HB1 := Lib.hid (Below.refl w.heap.size w)
    have C2 := Lib.hid (works_sf w)
    go_wp2_with fail
    refine C2.out.mono ?_
    rintro e4 w3 ⟨rfl, hb⟩
    have HB5 := Lib.hid (HB1.out.trans (hb.mono HB1.out.size))
    clear hb C2 HB1
    go_wp2
    go_ret
    exact ⟨rfl, HB5.out⟩
  · go_enter Try.func6, Try.ntmps6
    have HB6 := Lib.hid (Below.refl w.heap.size w)
    have hl0 : l0.length ≤ 1048576 := by omega
    have hmx : l0.length + 3 ≤ maxLen := by simp only [maxLen]; omega
    have C7 := Lib.hid (pnew_any 1048576 (by unfold I64; omega) w)
    go_wp2_with fail
    refine C7.out.mono ?_
    intro e9 w8 h
    rw [if_neg (by omega)] at h
    obtain ⟨b10, f11, rfl, hd, hf, hb⟩ := h
    have HF12 := Lib.hid (hf.mono HB6.out.size)
    have HB13 := Lib.hid (HB6.out.trans (hb.mono HB6.out.size))
    have HD14 := Lib.hid hd
    clear HB6 hd hf hb C7
    have C15 := Lib.hid (wide_far _ l0 w.heap.size w8 HB13.out.size (H0.out.below_ HB13.out (Nat.le_refl _)).bv_ (by omega))
    go_wp2_with fail
    refine C15.out.mono ?_
    rintro e17 w16 ⟨g1, rfl, ho, hb⟩
    obtain ⟨hge, hwide⟩ := WideAt.of ho rfl hmx
    have G18 := Lib.hid hwide
    have GF19 : Hid (f11.Off (fun k => (g1 : Nat) = k)) := ((pdisk_law.lt HD14.out).off (fun k hk => by omega))
    have G18b : Hid (w.heap.size ≤ g1) := Nat.le_trans HB13.out.size hge
    have HB20 := Lib.hid (HB13.out.trans (hb.mono HB13.out.size))
    have HD21 := Lib.hid (pdisk_law.below HD14.out hb)
    clear HB13 HD14 hb ho C15 hge hwide
    have C22 := Lib.hid (wide_far _ l0 w.heap.size w16 HB20.out.size (H0.out.below_ HB20.out (Nat.le_refl _)).bv_ (by omega))
    go_wp2_with fail
    refine C22.out.mono ?_
    rintro e24 w23 ⟨g2, rfl, ho, hb⟩
    obtain ⟨hge, hwide⟩ := WideAt.of ho rfl hmx
    have G25 := Lib.hid hwide
    have GF26 : Hid (f11.Off (fun k => (g2 : Nat) = k)) := ((pdisk_law.lt HD21.out).off (fun k hk => by omega))
    have G25b : Hid (w.heap.size ≤ g2) := Nat.le_trans HB20.out.size hge
    have G27 := Lib.hid (G18.out.below hb)
    have hneg1g2 : Hid (g1 ≠ g2) := by have := G18.out.lt; unfold Hid; omega
    clear G18
    have G27b := G18b
    have HB28 := Lib.hid (HB20.out.trans (hb.mono HB20.out.size))
    have HD29 := Lib.hid (pdisk_law.below HD21.out hb)
    clear HB20 HD21 hb ho C22 hge hwide
    have EQ : Hid (Sf.create (Sf.new (1048576 : Int).toNat) ⟨#[97]⟩ = (0, Sf.one1S ⟨#[97]⟩)) := Sf.one1 (by decide +kernel)
    have C30 := Lib.hid (pcreate_any HD29.out (by unfold Sf.Few; simp [Sf.new]) ⟨#[97]⟩ (by decide +kernel))
    rw [EQ.out] at C30
    go_wp2_with fail
    refine C30.out.mono ?_
    rintro e32 w31 ⟨rfl, f33, hd, hn, ht⟩
    have GF35 : Hid (f33.Off (fun k => (g1 : Nat) = k)) := off_nextB GF19.out hn G27.out.lt
    have G34 := Lib.hid (G27.out.turned ht (GF19.out g1 rfl).1)
    have G34b := G27b
    clear G27 GF19
    have GF37 : Hid (f33.Off (fun k => (g2 : Nat) = k)) := off_nextB GF26.out hn G25.out.lt
    have G36 := Lib.hid (G25.out.turned ht (GF26.out g2 rfl).1)
    have G36b := G25b
    clear G25 GF26
    have HB38 := Lib.hid (HF12.out.below HB28.out HB28.out.size ht)
    have HF39 := Lib.hid (hn.from_ HF12.out HB28.out.size)
    have HD40 := Lib.hid hd
    clear HB28 HD29 HF12 hd hn ht C30 EQ
    have EQ := Lib.hid (Sf.one2 ⟨#[97]⟩ hl0)
    have C41 := Lib.hid (pappend_any HD40.out (by unfold Sf.Few; simp [Sf.one1S]) ⟨#[97]⟩ (by decide +kernel) _ _ l0 G34.out.lv (Nat.le_refl _) (fun _ k hk hm => (GF35.out k (Option.some.inj hk)).1 hm))
    rw [EQ.out] at C41
    go_wp2_with fail
    refine C41.out.mono ?_
    rintro e43 w42 ⟨rfl, f44, hd, hn, ht⟩
    have GF46 : Hid (f44.Off (fun k => (g1 : Nat) = k)) := off_nextB GF35.out hn G34.out.lt
    have G45 := Lib.hid (G34.out.turned ht (GF35.out g1 rfl).1)
    have G45b := G34b
    clear G34 GF35
    have GF48 : Hid (f44.Off (fun k => (g2 : Nat) = k)) := off_nextB GF37.out hn G36.out.lt
    have G47 := Lib.hid (G36.out.turned ht (GF37.out g2 rfl).1)
    have G47b := G36b
    clear G36 GF37
    have HB49 := Lib.hid (HF39.out.below HB38.out HB38.out.size ht)
    have HF50 := Lib.hid (hn.from_ HF39.out HB38.out.size)
    have HD51 := Lib.hid hd
    clear HB38 HD40 HF39 hd hn ht C41 EQ
    have EQ := Lib.hid (Sf.fr_put ⟨#[97]⟩ l0)
    have C52 := Lib.hid (pwrite_any HD51.out (by unfold Sf.Few; simp [Sf.one2S]) ⟨#[97]⟩ (by decide +kernel) 0 (by unfold I64; omega) _ _ l0 G47.out.lv (Nat.le_refl _) (fun _ k hk hm => (GF48.out k (Option.some.inj hk)).1 hm))
    rw [EQ.out] at C52
    go_wp2_with fail
    refine C52.out.mono ?_
    rintro e54 w53 ⟨rfl, f55, hd, hn, ht⟩
    have GF57 : Hid (f55.Off (fun k => (g1 : Nat) = k)) := off_nextB GF46.out hn G45.out.lt
    have G56 := Lib.hid (G45.out.turned ht (GF46.out g1 rfl).1)
    have G56b := G45b
    clear G45 GF46
    have GF59 : Hid (f55.Off (fun k => (g2 : Nat) = k)) := off_nextB GF48.out hn G47.out.lt
    have G58 := Lib.hid (G47.out.turned ht (GF48.out g2 rfl).1)
    have G58b := G47b
    clear G47 GF48
    have HB60 := Lib.hid (HF50.out.below HB49.out HB49.out.size ht)
    have HF61 := Lib.hid (hn.from_ HF50.out HB49.out.size)
    have HD62 := Lib.hid hd
    clear HB49 HD51 HF50 hd hn ht C52 EQ
    have C63 := Lib.hid (left_any g1 l0 _ _ _ w53 G56.out.full (H0.out.below_ HB60.out (Nat.le_refl _)).bv_)
    go_wp2_with fail
    refine C63.out.mono ?_
    rintro e65 w64 ⟨rfl, hb⟩
    have G66 := Lib.hid (G56.out.below hb)
    have G66b := G56b
    clear G56
    have G67 := Lib.hid (G58.out.below hb)
    have G67b := G58b
    clear G58
    have HB68 := Lib.hid (HB60.out.trans (hb.mono HB60.out.size))
    have HD69 := Lib.hid (pdisk_law.below HD62.out hb)
    clear HB60 HD62 hb C63
    have C70 := Lib.hid (left_any g2 l0 _ _ _ w64 G67.out.full (H0.out.below_ HB68.out (Nat.le_refl _)).bv_)
    go_wp2_with fail
    refine C70.out.mono ?_
    rintro e72 w71 ⟨rfl, hb⟩
    have G73 := Lib.hid (G66.out.below hb)
    have G73b := G66b
    clear G66
    have G74 := Lib.hid (G67.out.below hb)
    have G74b := G67b
    clear G67
    have HB75 := Lib.hid (HB68.out.trans (hb.mono HB68.out.size))
    have HD76 := Lib.hid (pdisk_law.below HD69.out hb)
    clear HB68 HD69 hb C70
    have C77 := Lib.hid (spoilO_any 0 _ l0 w71 G73.out.own)
    go_wp2_with fail
    refine C77.out.mono ?_
    rintro e79 w78 ⟨⟨xx, rfl⟩, hg⟩
    have ht := Turned.of_grown hg
    have hof : f55.Off (fun k => (Value.slice (some ⟨g1, 0, none⟩) l0.length (l0.length + 3)).ownBlock = some k) := fun k hk => GF57.out k (Option.some.inj hk)
    have HB80 := Lib.hid (HB75.out.grown hg HB75.out.size (fun k hk => by have := G73b.out; have e : g1 = k := Option.some.inj hk; omega))
    have HD81 := Lib.hid (pdisk_law.turned HD76.out ht hof)
    have G82 := Lib.hid (G74.out.turned ht (fun hk => hneg1g2.out (Option.some.inj hk)))
    have G82b := G74b
    clear G74
    clear HB75 HD76 ht hof hg C77 G73 GF57
    have C83 := Lib.hid (spoilO_any 0 _ l0 w78 G82.out.own)
    go_wp2_with fail
    refine C83.out.mono ?_
    rintro e85 w84 ⟨⟨xx, rfl⟩, hg⟩
    have ht := Turned.of_grown hg
    have hof : f55.Off (fun k => (Value.slice (some ⟨g2, 0, none⟩) l0.length (l0.length + 3)).ownBlock = some k) := fun k hk => GF59.out k (Option.some.inj hk)
    have HB86 := Lib.hid (HB80.out.grown hg HB80.out.size (fun k hk => by have := G82b.out; have e : g2 = k := Option.some.inj hk; omega))
    have HD87 := Lib.hid (pdisk_law.turned HD81.out ht hof)
    clear HB80 HD81 ht hof hg C83 G82 GF59
    have HRD := Lib.hid (Sf.fr_read ⟨#[97]⟩ hl0)
    have C88 := Lib.hid (pread_any HD87.out ⟨#[97]⟩ (by decide +kernel) 0 1048576 (by unfold I64; omega) (by unfold I64; omega))
    rw [HRD.out] at C88
    go_wp2_with fail
    refine C88.out.mono ?_
    rintro ec wc ⟨Ac, cc, rfl, ho, hb⟩
    have OC := Lib.hid ho
    change Hid (OwnL yK wc _ (.slice Ac l0.length cc) l0) at OC
    have hofc : f55.Off (fun k => (Value.slice Ac l0.length cc).ownBlock = some k) := (pdisk_law.lt HD87.out).off (fun k hk => (ho.lt_ k hk).1)
    have HOFC := Lib.hid hofc
    have HCB : Hid (∀ k, (Value.slice Ac l0.length cc).ownBlock = some k → w.heap.size ≤ k) := fun k hk => Nat.le_trans HB86.out.size (ho.lt_ k hk).1
    have HB89 := Lib.hid (HB86.out.trans (hb.mono HB86.out.size))
    have HD90 := Lib.hid (pdisk_law.below HD87.out hb)
    clear HB86 HD87 hb ho C88 hofc
    have CK := Lib.hid (copyO_any _ l0 _ wc OC.out.form_ (by omega))
    go_wp2_with fail
    refine CK.out.mono ?_
    rintro ek wk ⟨Ak, ck, rfl, ho, hb⟩
    have OK := Lib.hid ho
    have OC2 := Lib.hid (OC.out.below_ hb (Nat.le_refl _))
    have HNE : Hid (∀ k, (Value.slice Ak l0.length ck).ownBlock = some k → (Value.slice Ac l0.length cc).ownBlock ≠ some k) := fun k h1 h2 => by have := (ho.lt_ k h1).1; have := (OC.out.lt_ k h2).2; omega
    have HB91 := Lib.hid (HB89.out.trans (hb.mono HB89.out.size))
    have HD92 := Lib.hid (pdisk_law.below HD90.out hb)
    clear HB89 HD90 hb ho CK OC
    have CP := Lib.hid (spoilO_any _ _ l0 wk OC2.out)
    go_wp2_with fail
    refine CP.out.mono ?_
    rintro ep wp ⟨⟨xx, rfl⟩, hg⟩
    have ht := Turned.of_grown hg
    have HB93 := Lib.hid (HB91.out.grown hg HB91.out.size (fun k hk => HCB.out k hk))
    have HD94 := Lib.hid (pdisk_law.turned HD92.out ht HOFC.out)
    have VK := Lib.hid ((OK.out.turned_ ht (fun k hk => HNE.out k hk)).form_)
    clear HB91 HD92 ht hg CP OC2 OK HNE HCB HOFC
    have CN := Lib.hid (pnames_any HD94.out)
    rw [Sf.fr_names] at CN
    go_wp2_with fail
    refine CN.out.mono ?_
    rintro en wn ⟨An, cn, rfl, ho, hb⟩
    have ON : Hid (OwnQ sK wn w.heap.size (.slice An 1 cn) [⟨#[97]⟩]) := ho.mono_ HB93.out.size
    have HOFN : Hid (f55.Off (fun k => (Value.slice An 1 cn).ownBlock = some k)) := (pdisk_law.lt HD94.out).off (fun k hk => (ho.lt_ k hk).1)
    have VK2 := Lib.hid ((VK.out.below_ hb (Nat.le_refl _)).mono_ hb.size)
    have VKN : Hid (∀ k, (Value.slice An 1 cn).ownBlock = some k → wp.heap.size ≤ k) := fun k hk => (ho.lt_ k hk).1
    have VK3 := Lib.hid ((VK.out.below_ hb (Nat.le_refl _)))
    have HWS : Hid (wp.heap.size ≤ wn.heap.size) := hb.size
    have HB95 := Lib.hid (HB93.out.trans (hb.mono HB93.out.size))
    have HD96 := Lib.hid (pdisk_law.below HD94.out hb)
    clear HB93 HD94 hb ho CN VK VK2
    go_wp2
    go_loopw [14] (fun i wr => ∃ (k : Nat) (y : List ByteArray), k ≤ 1 ∧ i = .int .i64 (k : Nat) ∧ Hid (y.length = 1) ∧ Hid (OwnQ sK wr w.heap.size (.slice An 1 cn) y) ∧ Hid (PDisk wr f55 (Sf.frS ⟨#[97]⟩ l0) b10) ∧ Hid (Lv yK wr wp.heap.size (.slice Ak l0.length ck) l0) ∧ Hid (wp.heap.size ≤ wr.heap.size) ∧ Below w.heap.size w wr) (fun i _ => 1 - (intOf i).toNat)
    case atStart => exact ⟨0, [⟨#[97]⟩], by omega, rfl, rfl, ON.out, HD96.out, VK3.out, HWS.out, HB95.out⟩
    case round =>
      obtain ⟨k, y, hk, rfl, HYL, HY, HDr, VKr, HWr, hbr⟩ := hrel
      have HBr := Lib.hid hbr
      clear hbr ON VK3 HWS HB95 HD96
      by_cases hlt : k < 1
      · have hk0 : k = 0 := by omega
        subst hk0
        obtain ⟨g, x, hA, hn, hge, _, _, _, hfz⟩ := HY.out.at_ (k := 0) (by rw [HYL.out]; omega)
        subst hA
        have hst := HY.out.set_ rfl (j := 0) (by rw [HYL.out]; omega) (x := ⟨#[98]⟩) (u := .string ⟨#[98]⟩) (by show _ ≤ maxLen; decide +kernel) rfl
        obtain ⟨hs1, hs2⟩ := hst
        have HY3 := Lib.hid hs1
        have HG3 := Lib.hid hs2
        have hfr := hfz 0
        clear hs1 hs2 hn
        have hcx : ∃ u, wr.cell? ⟨g, 0, none⟩ = some u := by obtain ⟨g', x', e1, _, _, _, _, h6, _⟩ := HY.out.at_ (k := 0) (by rw [HYL.out]; omega); injection e1 with e1; injection e1 with e1; subst e1; exact ⟨_, h6 0 _ rfl⟩
        obtain ⟨u, hcu⟩ := hcx
        have HGE : Hid (w.heap.size ≤ g) := hge
        have HOFG : Hid (f55.Off (fun k => some g = some k)) := fun k hk => HOFN.out k hk
        have HDs := Lib.hid (pdisk_law.turned HDr.out (Turned.of_grown HG3.out) HOFG.out)
        have HBs := Lib.hid (HBr.out.grown HG3.out HBr.out.size (fun k hk => by have := HGE.out; injection hk with hk; omega))
        have VKs := Lib.hid (VKr.out.turned_ (Turned.of_grown HG3.out) (fun k hk e => by have := VKN.out g rfl; injection e with e; omega))
        clear hge hlt
        go_wp2
        go_roundw
        case rel => exact ⟨1, _, by omega, by first | rfl | go_num, by unfold Hid; rw [List.length_set]; exact HYL.out, HY3.out, HDs.out, VKs.out, by have := HG3.out.size; have := HWr.out; unfold Hid; omega, HBs.out⟩
        case measure => simp [intOf]
      · have hk1 : k = 1 := by omega
        subst hk1
        have VK4 := Lib.hid (VKr.out.mono_ HWr.out)
        clear VKr HY HYL HWr hk hlt
        have CD := Lib.hid (pread_any HDr.out ⟨#[97]⟩ (by decide +kernel) 0 1048576 (by unfold I64; omega) (by unfold I64; omega))
        rw [HRD.out] at CD
        go_wp2_with fail
        refine CD.out.mono ?_
        rintro ed wd ⟨Ad, cd, rfl, ho, hb⟩
        have VK4' := Lib.hid ((VK4.out.below_ hb (Nat.le_refl _)).mono_ hb.size)
        clear VK4
        have VK4 := VK4'
        clear VK4'
        have VD := Lib.hid ho.form_
        have HB97 := Lib.hid (HBr.out.trans (hb.mono HBr.out.size))
        have HD98 := Lib.hid (pdisk_law.below HDr.out hb)
        clear HBr HDr hb ho CD
        have CS := Lib.hid (octs_lv _ _ _ _ _ _ wd VK4.out (H0.out.below_ HB97.out (Nat.le_refl _)))
        simp only [decide_true] at CS
        go_wp2_with fail
        refine CS.out.mono ?_
        rintro es ws ⟨rfl, hb⟩
        have VD' := Lib.hid ((VD.out.below_ hb (Nat.le_refl _)).mono_ hb.size)
        clear VD
        have VD := VD'
        clear VD'
        have HB99 := Lib.hid (HB97.out.trans (hb.mono HB97.out.size))
        have HD100 := Lib.hid (pdisk_law.below HD98.out hb)
        clear HB97 HD98 hb CS VK4
        have CS := Lib.hid (octs_lv _ _ _ _ _ _ ws VD.out (H0.out.below_ HB99.out (Nat.le_refl _)))
        simp only [decide_true] at CS
        go_wp2_with fail
        refine CS.out.mono ?_
        rintro et wt ⟨rfl, hb⟩
        have HB101 := Lib.hid (HB99.out.trans (hb.mono HB99.out.size))
        have HD102 := Lib.hid (pdisk_law.below HD100.out hb)
        clear HB99 HD100 hb CS VD
        have CN := Lib.hid (pnames_any HD102.out)
        rw [Sf.fr_names] at CN
        go_wp2_with fail
        refine CN.out.mono ?_
        rintro en2 wn2 ⟨An2, cn2, rfl, ho, hb⟩
        have VN := Lib.hid ho.form_
        have HB103 := Lib.hid (HB101.out.trans (hb.mono HB101.out.size))
        have HD104 := Lib.hid (pdisk_law.below HD102.out hb)
        clear HB101 HD102 hb ho CN
        have hla := Lv.build_ sK wn2 [⟨#[97]⟩] (fun x hx => by simp at hx; subst hx; show _ ≤ maxLen; decide +kernel) (by simp [maxLen]) 1 rfl _ rfl _ rfl
        have hab : Below wn2.heap.size wn2 (wn2.alloc (.cells #[.string { data := #[97] }] 9)) := (Below.refl _ _).alloc (Nat.le_refl _) _
        change Lv sK (wn2.alloc (.cells #[.string { data := #[97] }] 9)) _ _ _ at hla
        obtain ⟨Y, hY⟩ : ∃ Y, wn2.alloc (.cells #[.string { data := #[97] }] 9) = Y := ⟨_, rfl⟩
        rw [hY] at hla hab
        have CT := Lib.hid (texts_lv _ _ _ _ _ _ Y (VN.out.below_ hab (Nat.le_refl _)) hla)
        simp only [decide_true] at CT
        have HB105 := Lib.hid (HB103.out.trans (hab.mono HB103.out.size))
        have HD106 := Lib.hid (pdisk_law.below HD104.out hab)
        clear HB103 HD104 hab hla VN
        go_wp2_with fail
        refine CT.out.mono ?_
        rintro eu wu ⟨rfl, hb⟩
        have HB107 := Lib.hid (HB105.out.trans (hb.mono HB105.out.size))
        have HD108 := Lib.hid (pdisk_law.below HD106.out hb)
        clear HB105 HD106 hb CT hY
        have C109 := Lib.hid (works_sf wu)
        go_wp2_with fail
        refine C109.out.mono ?_
        rintro e111 w110 ⟨rfl, hb⟩
        have HB112 := Lib.hid (HB107.out.trans (hb.mono HB107.out.size))
        clear hb C109 HB107
        go_wp2
        go_ret
        exact ⟨rfl, HB112.out⟩
/-! ### From the walk to the row -/
set_option maxRecDepth 100000 in
theorem lifted (os : Os) (started : os.Started) (H : Type) (enc : TypeId × Value → H) :
    ReturnsInHanded {} Try.checked os 6 .any (Rows.simfsFreshSpec.pre6 enc Try.prog Try.f6 Rows.simfsFreshRow.domain false) (Rows.simfsFreshSpec.post enc Try.prog Try.f6 false true false false) := by
  refine returnsInHanded_of_change (C := Try.checked) own started (by kernel_rfl) Try.func6
    (ChangeSpec.witness6 (enc := enc) (C := Try.checked) false ⟨#[], #[.slice none 0 0, .int .i64 0], []⟩ 8 (by kernel_rfl) (by kernel_rfl) (by kernel_rfl) (by kernel_rfl)) ?_
  intro W base args ds gs before hval0 hW hcnd _
  have hval : ∀ (j : Nat) t v, Try.f6.params[j]? = some t → args[j]? = some v → Value.okWide Try.prog W .any base t v := hval0
  have hW' := hW
  obtain ⟨p, q, hA0, hV, rfl, hfz, hnd⟩ := hW
  have hA : DataW.TrodAll enc Try.prog W 0 (fun _ => true) true Try.f6.params.toList args.toList ds p := hA0
  rw [Try.params6] at hA hval
  obtain ⟨v0, vs0, d0, ds0, p0, q0, hargs, rfl, rfl, h0, r0⟩ := trodAll_cons hA
  obtain ⟨v1, vs1, d1, ds1, p1, q1, rfl, rfl, rfl, h1, r1⟩ := trodAll_cons r0
  obtain ⟨rfl, rfl, rfl⟩ := trodAll_nil r1
  obtain rfl : args = #[v0, v1] := by cases args; simp_all
  obtain ⟨rfl, rfl⟩ := trodVars_none hV
  obtain ⟨a0, len0, cap0, rfl⟩ := okWide_slice Try.underlying22 (hval 0 22 v0 rfl rfl)
  have k0 := h0
  have lt0 : ∀ x ∈ p0, x.block < W.heap.size := by obtain ⟨m, hm⟩ := k0; exact DataW.trod_lt m _ _ _ hm
  obtain ⟨l0, len_0, hb0⟩ : ∃ l : List Nat, l.length = len0 ∧ Lv yK W W.heap.size (.slice a0 len0 cap0) l := by
    obtain ⟨fuel, hf⟩ := h0
    exact octs_in hf
  obtain ⟨a1, rfl, rfl, rfl, w1⟩ := open_int Try.underlying3 (hval 1 3 v1 rfl rfl) h1
  clear hA0 hval0
  refine (walk W (.slice a0 len0 cap0) l0 hb0 a1 w1).mono fun e W' ⟨he, bel⟩ => ?_
  subst he
  exact ⟨_, rfl, _, _, _, [], _, [], hW', trodAll_mk1 (shut_bool Try.underlying4 _), (trodAll_cons_mk (Below.trod laidOut (by kernel_rfl) (of_decide_eq_true (by kernel_rfl)) k0 bel lt0) (trodAll_cons_mk (shut_int Try.underlying3 w1) trodAll_mk0)), rfl, bel.frame _, fun h => by cases h⟩

theorem proved : Rows.SimfsFreshSaid :=
  OpenClaim.holds_of_wide 6 Try.f6 rfl rfl rfl rfl rfl rfl rfl ⟨rfl, rfl, rfl, rfl, rfl⟩ rfl rfl rfl rfl rfl (by kernel_rfl) Try.func6 (by kernel_rfl)
    (of_decide_eq_true (by kernel_rfl)) (by unfold Func.isWrapper; first | (rw [if_pos (by decide +kernel)]; kernel_rfl) | (rw [if_neg (by decide +kernel)]; exact ⟨rfl, rfl⟩))
    (fun os started H enc _ => lifted os started H enc)

end Go.Proofs.Ytmcbjcbnckpfkaa.simfsFresh
