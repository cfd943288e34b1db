/-
  SimfsRoom: on a disk whose power did not fail no more is used than there is room for, whatever is done; a deed that is refused is no act. No condition.
-/
import Derived.Test.YtmcbjcbnckpfkaaPk05
import Derived.Test.YtmcbjcbnckpfkaaPk23
import Derived.Test.YtmcbjcbnckpfkaaPk08
namespace Go.Proofs.Ytmcbjcbnckpfkaa.simfsRoom
open Go.ChangeShapes Go.WideShapes Go.ChangeAt Go.RowKit
open Go.ChangeMaps (open_string shut_string)
set_option linter.unusedVariables false

set_option maxHeartbeats 4000000 in
set_option maxRecDepth 100000 in
theorem walk (w : World) (a0 : Int) (h0 : (Lit.int .i64 a0).wf = true) (v1 : Value) (l1 : List Sf.Op) (h1 : Dv w w.heap.size v1 l1) :
    Calls Try.prog 9 #[.int .i64 a0, v1] w (IsBool true w) := by
  have hb0 := bounds_i64 h0
  have HI : Hid (I64 a0) := by unfold Hid I64; omega
  have H1 := Lib.hid h1
  have HN := Lib.hid (pnew_any a0 HI.out w)
  clear h0
  by_cases hbad : a0 < 0 ∨ 1048576 < a0
  · have HB := Lib.hid hbad
    clear h1
    by_cases hneg : a0 < 0
    · have hx1 := hneg
      clear hbad hb0
      go_enter Try.func9, Try.ntmps9
      go_wp2_with fail
      refine HN.out.mono ?_
      intro e w1 h
      rw [if_pos HB.out] at h
      obtain ⟨rfl, hb⟩ := h
      have HB1 := Lib.hid hb
      have HW := Lib.hid (works_sf w1)
      clear hb HN
      go_wp2_with fail
      refine HW.out.mono ?_
      rintro e w2 ⟨rfl, hb⟩
      have HB2 := Lib.hid (HB1.out.trans (hb.mono HB1.out.size))
      clear hb HW HB1
      go_wp2
      go_ret
      exact ⟨rfl, HB2.out⟩
    · have hx2 : 1048576 < a0 := by omega
      clear hbad hb0
      go_enter Try.func9, Try.ntmps9
      go_wp2_with fail
      refine HN.out.mono ?_
      intro e w1 h
      rw [if_pos HB.out] at h
      obtain ⟨rfl, hb⟩ := h
      have HB1 := Lib.hid hb
      have HW := Lib.hid (works_sf w1)
      clear hb HN
      go_wp2_with fail
      refine HW.out.mono ?_
      rintro e w2 ⟨rfl, hb⟩
      have HB2 := Lib.hid (HB1.out.trans (hb.mono HB1.out.size))
      clear hb HW HB1
      go_wp2
      go_ret
      exact ⟨rfl, HB2.out⟩
  · have HB := Lib.hid hbad
    obtain ⟨A, n, c, hv1⟩ : ∃ A n c, v1 = .slice A n c := by obtain ⟨us, _, ⟨A, c, e, _⟩, _⟩ := h1; exact ⟨A, _, c, e⟩
    subst hv1
    obtain rfl := h1.len_
    have hmx : l1.length ≤ 9223372036854775807 := by obtain ⟨us, e, h2, _⟩ := h1; have := h2.len_; simp only [maxLen] at this; omega
    have HG := Lib.hid (great_any (.slice A l1.length c) w.heap.size l1)
    obtain ⟨g, hg⟩ : ∃ g, Sf.great l1 = g := ⟨_, rfl⟩
    rw [hg] at HG
    clear h1 hb0
    go_enter Try.func9, Try.ntmps9
    have HB1 := Lib.hid (Below.refl w.heap.size w)
    go_wp2_with fail
    refine HN.out.mono ?_
    intro e w1 h
    rw [if_neg HB.out] at h
    obtain ⟨b, f, rfl, hd, hf, hb⟩ := h
    have HF2 := Lib.hid (hf.mono HB1.out.size)
    have HB3 := Lib.hid (HB1.out.trans (hb.mono HB1.out.size))
    have HD4 := Lib.hid hd
    clear HB1 hd hf hb HN
    have HGW := Lib.hid (HG.out w1 (H1.out.below_ HB3.out (Nat.le_refl _)) HB3.out.size)
    go_wp2_with fail
    refine HGW.out.mono ?_
    rintro e w2 ⟨rfl, hb⟩
    have HB5 := Lib.hid (HB3.out.trans (hb.mono HB3.out.size))
    have HD6 := Lib.hid (pdisk_law.below HD4.out hb)
    clear HB3 HD4 hb HGW HG
    cases g with
    | true =>
      have HW := Lib.hid (works_sf w2)
      go_wp2_with fail
      refine HW.out.mono ?_
      rintro e w3 ⟨rfl, hb⟩
      have HBE := Lib.hid (HB5.out.trans (hb.mono HB5.out.size))
      clear hb HW HB5
      go_wp2
      go_ret
      exact ⟨rfl, HBE.out⟩
    | false =>
      have hl : l1.length ≤ 120 := by unfold Sf.great at hg; simp at hg; omega
      have HCM : Hid (Sf.Calm (Sf.new a0.toNat)) := Sf.calm_new
      have har : ((a0.toNat : Nat) : Int) = a0 := by have := HB.out; omega
      clear hg
      go_wp2
      go_loopw [7, 8, 9, 10] (fun i x8 x9 x10 wr => ∃ (k : Nat) (fp : Fp) (t : Sf.St), k ≤ l1.length ∧ i = .int .i64 (k : Nat) ∧ Hid (PDisk wr fp t b) ∧ Hid (fp.From w.heap.size) ∧ Hid (Sf.Calm t) ∧ Hid (t.acts ≤ k) ∧ Hid (t.room = a0.toNat) ∧ Below w.heap.size w wr) (fun i _ _ _ _ => l1.length - (intOf i).toNat)
      case atStart => exact ⟨0, f, Sf.new a0.toNat, by omega, rfl, HD6.out, HF2.out, HCM.out, Nat.zero_le _, rfl, HB5.out⟩
      case round =>
        obtain ⟨k, fp, t, hk, rfl, HDr, HFr, HCr, HAr, HRr, hbr⟩ := hrel
        have HBr := Lib.hid hbr
        clear hbr HB5 HD6 HF2 HCM
        by_cases hlt : k < l1.length
        · have hki : (k : Int) < (l1.length : Int) := by omega
          have hk0 : (0 : Int) ≤ (k : Int) := by omega
          have wk : IntKind.i64.wrap ((k : Int) + 1) = (k : Int) + 1 := by rw [IntKind.wrap_i64]; omega
          obtain ⟨bo, off, x, o, rfl, hbo, hraw, hq, hdd, hrg⟩ := H1.out.at_ hlt
          change w.rangeAt bo (off + k * 5) [.int .u8 (x.call : Nat), .string x.name, .string x.to, .int .i64 x.at_, .slice x.A x.n x.c] at hrg
          have RGx : Hid (∀ w', Below w.heap.size w w' → w'.rangeAt bo (off + k * 5) [.int .u8 (x.call : Nat), .string x.name, .string x.to, .int .i64 x.at_, .slice x.A x.n x.c]) := fun w' hb' j u hj => (hb'.cell (p := ⟨bo, off + k * 5 + j, none⟩) (by show bo < _; omega)).trans (hrg j u hj)
          have DDx := Lib.hid hdd
          have RWx := Lib.hid hraw
          have HQx := Lib.hid hq
          have hcox : o.call = x.call := hdd.1
          clear hrg hq hdd hraw hbo
          have hcl : wr.cell? ⟨bo, off + k * 5, none⟩ = some (.int .u8 (x.call : Nat)) := RGx.out wr HBr.out 0 _ rfl
          by_cases h8 : 8 ≤ x.call
          · have h8i : (8 : Int) ≤ (x.call : Int) := by omega
            clear RGx DDx RWx HQx
            go_wp2
            go_roundw
            case rel => exact ⟨k + 1, fp, t, by omega, by go_num, HDr.out, HFr.out, HCr.out, by have := HAr.out; unfold Hid; omega, HRr.out, HBr.out⟩
            case measure => simp [intOf]; omega
          · have h8i : ¬ (8 : Int) ≤ (x.call : Int) := by omega
            have HQ := Lib.hid (HCr.out.deed o (by omega))
            have HFEW : Hid (Sf.Few t) := by have := HAr.out; unfold Hid Sf.Few; omega
            obtain ⟨A0, hA0⟩ : ∃ n, t.acts = n := ⟨_, rfl⟩
            obtain ⟨U0, hU0⟩ : ∃ n, Sf.used t = n := ⟨_, rfl⟩
            have HA0 := Lib.hid hA0
            have HU0 := Lib.hid hU0
            have hA0k : A0 ≤ k := by rw [← hA0]; exact HAr.out
            clear hA0 hU0
            have C7 := Lib.hid (pacts_any HDr.out)
            rw [HA0.out] at C7
            go_wp2_with fail
            refine C7.out.mono ?_
            rintro e9 w8 ⟨rfl, hb⟩
            have HB10 := Lib.hid (HBr.out.trans (hb.mono HBr.out.size))
            have HD11 := Lib.hid (pdisk_law.below HDr.out hb)
            clear HBr HDr hb C7
            have C12 := Lib.hid (pused_any HD11.out)
            rw [HU0.out] at C12
            go_wp2_with fail
            refine C12.out.mono ?_
            rintro e14 w13 ⟨rfl, hb⟩
            have HB15 := Lib.hid (HB10.out.trans (hb.mono HB10.out.size))
            have HD16 := Lib.hid (pdisk_law.below HD11.out hb)
            clear HB10 HD11 hb C12
            obtain ⟨r, hr⟩ : ∃ r, Sf.doOp t o = r := ⟨_, rfl⟩
            rw [hr] at HQ
            have HR := Lib.hid hr
            clear hr
            have RGN := Lib.hid (RGx.out w13 HB15.out)
            have C17 := Lib.hid (pdo_any HD16.out HFEW.out x o w.heap.size RWx.out (DDx.out.below_ HB15.out (Nat.le_refl _)) HB15.out.size (HFr.out.not_arg DDx.out.2.2.2.2))
            unfold deedC at C17
            rw [HR.out] at C17
            go_wp2_with (refine wpList_load_mid rfl _ _ rfl bo (off + k * 5) rfl [.int .u8 (x.call : Nat), .string x.name, .string x.to, .int .i64 x.at_, .slice x.A x.n x.c] _ RGN.out Try.underlying35 rfl (by kernel_rfl) ?_)
            refine C17.out.mono ?_
            rintro e19 w18 ⟨rfl, f20, hd, hn, ht⟩
            have HB21 := Lib.hid (HFr.out.below HB15.out HB15.out.size ht)
            have HF22 := Lib.hid (hn.from_ HFr.out HB15.out.size)
            have HD23 := Lib.hid hd
            clear HB15 HD16 HFr hd hn ht C17 RGN
            obtain ⟨U1, hU1⟩ : ∃ n, Sf.used r.2 = n := ⟨_, rfl⟩
            have HU1 := Lib.hid hU1
            have HUR : Hid (¬ a0 < (U1 : Int)) := by have h1 := HQ.out.used; have h2 := HQ.out.room; have h3 := HRr.out; have h4 := HB.out; unfold Hid; omega
            have hur := HUR.out
            clear hU1 HR
            obtain ⟨e, hre⟩ : ∃ e, r.1 = e := ⟨_, rfl⟩
            rw [hre]
            by_cases hz : e = 0
            · subst hz
              simp only [Int.natCast_zero]
              have HA1 : Hid (r.2.acts = A0 + 1) := by have h1 := HQ.out.yes hre; have h2 := HA0.out; unfold Hid; omega
              have wa : IntKind.i64.wrap ((A0 : Int) + 1) = (A0 : Int) + 1 := by rw [IntKind.wrap_i64]; omega
              clear hre
              have C24 := Lib.hid (pacts_any HD23.out)
              rw [HA1.out] at C24
              go_wp2_with fail
              refine C24.out.mono ?_
              rintro e26 w25 ⟨rfl, hb⟩
              have HB27 := Lib.hid (HB21.out.trans (hb.mono HB21.out.size))
              have HD28 := Lib.hid (pdisk_law.below HD23.out hb)
              clear HB21 HD23 hb C24
              have nca : ((A0 + 1 : Nat) : Int) = (A0 : Int) + 1 := by omega
              rw [nca]
              have C29 := Lib.hid (pused_any HD28.out)
              rw [HU1.out] at C29
              go_wp2_with fail
              refine C29.out.mono ?_
              rintro e31 w30 ⟨rfl, hb⟩
              have HB32 := Lib.hid (HB27.out.trans (hb.mono HB27.out.size))
              have HD33 := Lib.hid (pdisk_law.below HD28.out hb)
              clear HB27 HD28 hb C29
              go_wp2
              go_roundw
              case rel => exact ⟨k + 1, f20, r.2, by omega, by go_num, HD33.out, HF22.out, HQ.out.calm, by have := HA1.out; unfold Hid; omega, HQ.out.room.trans HRr.out, HB32.out⟩
              case measure => simp [intOf]; omega
            · have HA1 : Hid (r.2.acts = A0) := by have h1 := HQ.out.no (by omega); unfold Hid; rw [h1]; exact HA0.out
              have HU2 : Hid (Sf.used r.2 = U0) := by have h1 := HQ.out.no (by omega); unfold Hid; rw [h1]; exact HU0.out
              have HUE : Hid (U0 = U1) := HU2.out.symm.trans HU1.out
              have hzi : ((e : Int) != 0) = true := by rw [bne_iff_ne]; omega
              have hzj : ((e : Int) == 0) = false := by rw [beq_eq_false_iff_ne]; omega
              obtain rfl := HUE.out
              clear hre hz
              have C34 := Lib.hid (pacts_any HD23.out)
              rw [HA1.out] at C34
              go_wp2_with fail
              refine C34.out.mono ?_
              rintro e36 w35 ⟨rfl, hb⟩
              have HB37 := Lib.hid (HB21.out.trans (hb.mono HB21.out.size))
              have HD38 := Lib.hid (pdisk_law.below HD23.out hb)
              clear HB21 HD23 hb C34
              have C39 := Lib.hid (pused_any HD38.out)
              rw [HU2.out] at C39
              go_wp2_with fail
              refine C39.out.mono ?_
              rintro e41 w40 ⟨rfl, hb⟩
              have HB42 := Lib.hid (HB37.out.trans (hb.mono HB37.out.size))
              have HD43 := Lib.hid (pdisk_law.below HD38.out hb)
              clear HB37 HD38 hb C39
              have C44 := Lib.hid (pused_any HD43.out)
              rw [HU2.out] at C44
              go_wp2_with fail
              refine C44.out.mono ?_
              rintro e46 w45 ⟨rfl, hb⟩
              have HB47 := Lib.hid (HB42.out.trans (hb.mono HB42.out.size))
              have HD48 := Lib.hid (pdisk_law.below HD43.out hb)
              clear HB42 HD43 hb C44
              go_wp2
              go_roundw
              case rel => exact ⟨k + 1, f20, r.2, by omega, by go_num, HD48.out, HF22.out, HQ.out.calm, by have := HA1.out; unfold Hid; omega, HQ.out.room.trans HRr.out, HB47.out⟩
              case measure => simp [intOf]; omega
        · have hki : ¬ (k : Int) < (l1.length : Int) := by omega
          have HDE : Hid (t.dead = false) := HCr.out.dead
          have C49 := Lib.hid (pdead_any HDr.out)
          rw [HDE.out] at C49
          go_wp2_with fail
          refine C49.out.mono ?_
          rintro e51 w50 ⟨rfl, hb⟩
          have HB52 := Lib.hid (HBr.out.trans (hb.mono HBr.out.size))
          have HD53 := Lib.hid (pdisk_law.below HDr.out hb)
          clear HBr HDr hb C49
          have C54 := Lib.hid (works_sf w50)
          go_wp2_with fail
          refine C54.out.mono ?_
          rintro e56 w55 ⟨rfl, hb⟩
          have HB57 := Lib.hid (HB52.out.trans (hb.mono HB52.out.size))
          clear hb C54 HB52
          go_wp2
          go_ret
          exact ⟨rfl, HB57.out⟩
/-! ### From the walk to the row -/
set_option maxRecDepth 100000 in
theorem lifted (os : Os) (started : os.Started) (H : Type) (enc : TypeId × Value → H) :
    ReturnsInHanded {} Try.checked os 9 .any (Rows.simfsRoomSpec.pre6 enc Try.prog Try.f9 Rows.simfsRoomRow.domain false) (Rows.simfsRoomSpec.post enc Try.prog Try.f9 false true false false) := by
  refine returnsInHanded_of_change (C := Try.checked) own started (by kernel_rfl) Try.func9
    (ChangeSpec.witness6 (enc := enc) (C := Try.checked) false ⟨#[], #[.int .i64 0, .slice none 0 0], []⟩ 8 (by kernel_rfl) (by kernel_rfl) (by kernel_rfl) (by kernel_rfl)) ?_
  intro W base args ds gs before hval0 hW hcnd _
  have hval : ∀ (j : Nat) t v, Try.f9.params[j]? = some t → args[j]? = some v → Value.okWide Try.prog W .any base t v := hval0
  have hW' := hW
  obtain ⟨p, q, hA0, hV, rfl, hfz, hnd⟩ := hW
  have hA : DataW.TrodAll enc Try.prog W 0 (fun _ => true) true Try.f9.params.toList args.toList ds p := hA0
  rw [Try.params9] at hA hval
  obtain ⟨v0, vs0, d0, ds0, p0, q0, hargs, rfl, rfl, h0, r0⟩ := trodAll_cons hA
  obtain ⟨v1, vs1, d1, ds1, p1, q1, rfl, rfl, rfl, h1, r1⟩ := trodAll_cons r0
  obtain ⟨rfl, rfl, rfl⟩ := trodAll_nil r1
  obtain rfl : args = #[v0, v1] := by cases args; simp_all
  obtain ⟨rfl, rfl⟩ := trodVars_none hV
  obtain ⟨a0, rfl, rfl, rfl, w0⟩ := open_int Try.underlying3 (hval 0 3 v0 rfl rfl) h0
  obtain ⟨a1, len1, cap1, rfl⟩ := okWide_slice Try.underlying23 (hval 1 23 v1 rfl rfl)
  have k1 := h1
  have lt1 : ∀ x ∈ p1, x.block < W.heap.size := by obtain ⟨m, hm⟩ := k1; exact DataW.trod_lt m _ _ _ hm
  obtain ⟨l1, len_1, hb1⟩ : ∃ l : List Sf.Op, l.length = len1 ∧ Dv W W.heap.size (.slice a1 len1 cap1) l := by
    obtain ⟨fuel, hf⟩ := h1
    exact deeds_in hf
  clear hA0 hval0
  refine (walk W a0 w0 (.slice a1 len1 cap1) l1 hb1).mono fun e W' ⟨he, bel⟩ => ?_
  subst he
  exact ⟨_, rfl, _, _, _, [], _, [], hW', trodAll_mk1 (shut_bool Try.underlying4 _), (trodAll_cons_mk (shut_int Try.underlying3 w0) (trodAll_cons_mk (Below.trod laidOut (by kernel_rfl) (of_decide_eq_true (by kernel_rfl)) k1 bel lt1) trodAll_mk0)), rfl, bel.frame _, fun h => by cases h⟩

theorem proved : Rows.SimfsRoomSaid :=
  OpenClaim.holds_of_wide 9 Try.f9 rfl rfl rfl rfl rfl rfl rfl ⟨rfl, rfl, rfl, rfl, rfl⟩ rfl rfl rfl rfl rfl (by kernel_rfl) Try.func9 (by kernel_rfl)
    (of_decide_eq_true (by kernel_rfl)) (by unfold Func.isWrapper; first | (rw [if_pos (by decide +kernel)]; kernel_rfl) | (rw [if_neg (by decide +kernel)]; exact ⟨rfl, rfl⟩))
    (fun os started H enc _ => lifted os started H enc)

end Go.Proofs.Ytmcbjcbnckpfkaa.simfsRoom
