/-
  RSfFc: stookref14: Fail.
  RSfPb: stookref14: Read, Arm.
  RSfQn: stookref14: Names.
-/
import Derived.Test.YtmcbjcbnckpfkaaGreatPt34
import Derived.Test.YtmcbjcbnckpfkaaGreatPt32
import Derived.Deep.Cut
import Derived.Deep.QuietTactic
import Derived.BigQuiet
import Derived.Test.YtmcbjcbnckpfkaaGreatPt30
import Derived.Test.YtmcbjcbnckpfkaaGreatPt04
import Derived.Test.YtmcbjcbnckpfkaaGreatPt02
import Derived.Test.YtmcbjcbnckpfkaaGreatPt27
import Derived.Test.YtmcbjcbnckpfkaaGreatPt26
import Derived.Test.YtmcbjcbnckpfkaaGreatPt08
import Derived.BigRegion
namespace Go.Proofs.YtmcbjcbnckpfkaaGreat
open Go.RowKit
set_option linter.unusedVariables false
namespace Sf
theorem kept1_stop {f : File} {l : List Int} {n : Nat} (hn : took l (f.row.length + 1) = n) (h : ∀ a, f.row[n]? = some a → a.cut = true) : kept1 f l = (bytes f n, l.drop 1) := by
  unfold kept1
  rw [hn]
  cases hr : f.row[n]? with
  | none => rfl
  | some a => simp [h a hr]
theorem kept1_torn {f : File} {l : List Int} {n : Nat} {a : Act} (hn : took l (f.row.length + 1) = n) (h : f.row[n]? = some a) (hc : a.cut = false) : kept1 f l = (torn (bytes f n) a (took (l.drop 1) (a.b.length + 1)), l.drop 2) := by
  unfold kept1
  rw [hn, h]
  simp [hc]
theorem drop_min2 (l : List Int) (a : Nat) : l.drop (min (min (a + 1) l.length + 1) l.length) = (l.drop a).drop 2 := by
  rw [drop_min, List.drop_drop]
  rcases Nat.lt_or_ge l.length (a + 1) with h | h
  · rw [List.drop_of_length_le (by omega), List.drop_of_length_le (by omega)]
  · rw [Nat.min_eq_left h]
end Sf
section
variable {w : World} {f : Fp} {t : Sf.St} {b : Nat}
set_option maxHeartbeats 8000000 in
set_option maxRecDepth 100000 in
theorem rfail_disk (h : RDiskM w f t b) (v0 : Value) (B : Nat) (l : List Int) (hv : Lv iK w B v0 l) (hB : B ≤ w.heap.size) :
    Calls Tryz.prog 15 #[.pointer (some ⟨b, 0, none⟩), v0] w (fun e w' => ∃ (b' : Nat) (f' : Fp), e = .returned (.pointer (some ⟨b', 0, none⟩)) ∧ RDiskM w' f' (Sf.fail t l) b' ∧ f'.From w.heap.size ∧ Below w.heap.size w w') := by
  obtain ⟨vf, vs, vr, vu, rf, rr, h⟩ := h
  obtain ⟨Av, cv, ev, _⟩ := id hv
  subst ev
  have HH := Lib.hid h
  have HV := Lib.hid hv
  have HBB := Lib.hid hB
  have hb : b < w.heap.size := h.lt b (.inl h.mine)
  have hrl : rr.length ≤ 1099511627776 := by have := h.body.nrow; have := h.good.rows; have := h.good.acts; omega
  have hnr := h.body.nrow
  obtain ⟨Ar, cr, er, _⟩ := h.body.row.form_
  obtain ⟨As, cs, es, _⟩ := h.body.sure.lv
  subst er
  obtain ⟨ns, hns⟩ : ∃ n, t.sure.length = n := ⟨_, rfl⟩
  rw [hns] at es
  have HVS := Lib.hid h.body.sure.lv
  have HVR := Lib.hid h.body.row.form_
  have hHC := h.head
  rw [es] at hHC
  have HC : Hid (∀ w', Below w.heap.size w w' → w'.heap[b]? = some (.cells (headC t vf (.slice As ns cs) (.slice Ar rr.length cr) vu) 53 (0, 0))) := fun w' hb' => (hb'.block b hb).trans hHC
  have HNR : Hid (rr.length = t.row.length) := hnr
  have HES : Hid (vs = .slice As ns cs) := es
  -- behind the taker's box
  obtain ⟨W, hW⟩ : ∃ W, w.alloc (.cells #[.slice Av l.length cv, .int .i64 0] 92) = W := ⟨_, rfl⟩
  have HTK : Hid (Taker W w.heap.size (.slice Av l.length cv) 0) := by unfold Hid Taker; rw [← hW]; exact heap_alloc_new w _
  have hbW : Below w.heap.size w W := by rw [← hW]; exact (Below.refl _ _).alloc (Nat.le_refl _) _
  have HBW := Lib.hid hbW
  have CT := Lib.hid (rtake_any W w.heap.size (.slice Av l.length cv) l 0 B (hv.below_ hbW hB) (by omega) HTK.out (Nat.zero_le _) (rr.length + 1) (by omega) (by omega))
  rw [List.drop_zero] at CT
  obtain ⟨k0, hk0⟩ : ∃ k, Sf.took l (rr.length + 1) = k := ⟨_, rfl⟩
  have hk0l : k0 ≤ t.row.length := by have := Sf.took_le l rr.length; omega
  have HDO : Hid (Sf.dirOf t l = Sf.dirAt t k0) := by unfold Hid Sf.dirOf; rw [← hnr, hk0]
  rw [hk0] at CT
  obtain ⟨hd64, hdlt, hdv⟩ := h.dir_at k0 hk0l
  have HD64 := Lib.hid hd64
  have HDL := Lib.hid hdlt
  have HDV := Lib.hid hdv
  have HK0 := Lib.hid hk0l
  have HLL : Hid (l.length ≤ 9223372036854775807) := by obtain ⟨_, _, _, h1, h2, _⟩ := hv; unfold Hid; simp only [maxLen] at h2; omega
  have d2 : W.cell? ⟨b, 2, none⟩ = some (.slice As ns cs) := head_cell (HC.out _ hbW) rfl
  have d3 : W.cell? ⟨b, 3, none⟩ = some (.slice Ar rr.length cr) := head_cell (HC.out _ hbW) rfl
  clear h hv hB hb hnr hns es hHC hk0 hd64 hdlt hdv hk0l hbW
  go_enter Tryz.func15, Tryz.ntmps15
  go_wp2_with fail
  refine CT.out.mono ?_
  rintro e2 w2 ⟨rfl, hTk2, hT2⟩
  have hb2 : Below w.heap.size w w2 := HBW.out.trans (hT2.below HBW.out.size (fun k hk => Nat.le_of_eq hk.symm))
  have HB2 := Lib.hid hb2
  have HTK2 := Lib.hid hTk2
  have d22 : w2.cell? ⟨b, 3, none⟩ = some (.slice Ar rr.length cr) := head_cell (HC.out _ hb2) rfl
  clear CT hTk2 hT2 hb2 d2 d3
  go_upto_if 30 with fail
  go_cut [6] from 29 (fun u wx => wx = w2 ∧ ∃ A c, u = .slice A (Sf.dirAt t k0).length c ∧ Hid (Lv eK w w.heap.size (.slice A (Sf.dirAt t k0).length c) (Sf.dirAt t k0)))
  case first =>
    rcases HDV.out with ⟨h0, hL⟩ | ⟨h0, u, hu, hL⟩
    · have hki : ¬ (0 : Int) < (k0 : Int) := by omega
      have hkd : decide (0 < k0) = false := decide_eq_false (by omega)
      have hkn : ¬ 0 < k0 := by omega
      clear h0
      rw [HES.out] at hL
      have HFIN : Hid (∃ A c, Value.slice As ns cs = .slice A (Sf.dirAt t k0).length c ∧ Hid (Lv eK w w.heap.size (.slice A (Sf.dirAt t k0).length c) (Sf.dirAt t k0))) := by
        obtain ⟨A, c, e, _⟩ := id hL
        exact ⟨A, c, e, by rw [← e]; exact hL⟩
      clear hL
      go_wp2
      go_meet
      exact ⟨rfl, HFIN.out⟩
    · have hki : (0 : Int) < (k0 : Int) := by omega
      have hkd : decide (0 < k0) = true := decide_eq_true (by omega)
      obtain ⟨uA, un, uc⟩ := u
      have HFIN : Hid (∃ A c, Value.slice uA un uc = .slice A (Sf.dirAt t k0).length c ∧ Hid (Lv eK w w.heap.size (.slice A (Sf.dirAt t k0).length c) (Sf.dirAt t k0))) := by
        obtain ⟨A, c, e, _⟩ := id hL
        exact ⟨A, c, e, by have e' : Value.slice uA un uc = .slice A (Sf.dirAt t k0).length c := e; rw [← e']; exact hL⟩
      have hkr : k0 - 1 < rr.length := (List.getElem?_eq_some_iff.1 hu).1
      have wk : IntKind.i64.wrap ((k0 : Int) - 1) = ((k0 - 1 : Nat) : Int) := by rw [IntKind.wrap_i64]; omega
      obtain ⟨q, hq⟩ : ∃ q, k0 - 1 = q := ⟨_, rfl⟩
      rw [hq] at hu wk hkr
      obtain ⟨bo, off, x, eA, hbo, _, hx, hcl⟩ := HVR.out.at_ hkr
      rw [hu] at hx
      injection hx with hx
      subst hx eA
      have c0 : w2.cell? ⟨bo, off + q * 1, none⟩ = some (.slice uA un uc) := (HB2.out.cell (p := ⟨bo, off + q * 1, none⟩) hbo).trans (hcl 0 _ rfl)
      rw [Nat.mul_one] at c0
      have hqi : (q : Int) < (rr.length : Int) := by omega
      have hq0 : (0 : Int) ≤ (q : Int) := by omega
      clear hu hcl hbo hq hL
      go_wp2
      go_meet
      exact ⟨rfl, HFIN.out⟩
  case rest =>
    obtain ⟨rfl, Ad, cd, rfl, HLD⟩ := hcut
    have c0 : wc.cell? ⟨b, 0, none⟩ = some (.int .i64 (t.room : Nat)) := head_cell (HC.out _ HB2.out) rfl
    clear d22 HDV
    obtain ⟨dir, hdir⟩ : ∃ d, Sf.dirAt t k0 = d := ⟨_, rfl⟩
    rw [hdir] at HLD HDO HD64 HDL
    rw [hdir]
    clear hdir
    have hob2 : w.heap.size ≤ wc.heap.size := HB2.out.size
    have hHW3 : (wc.alloc (.cells (headC (Sf.new t.room) (.slice none 0 0) (.slice none 0 0) (.slice none 0 0) (.slice none 0 0)) 53)).heap[wc.heap.size]? = some (.cells (headC (Sf.new t.room) (.slice none 0 0) (.slice none 0 0) (.slice none 0 0) (.slice none 0 0)) 53 (0, 0)) := heap_alloc_new wc _
    have hbw3 : Below wc.heap.size wc (wc.alloc (.cells (headC (Sf.new t.room) (.slice none 0 0) (.slice none 0 0) (.slice none 0 0) (.slice none 0 0)) 53)) := (Below.refl _ _).alloc (Nat.le_refl _) _
    have HI : Hid (FailIn (wc.alloc (.cells (headC (Sf.new t.room) (.slice none 0 0) (.slice none 0 0) (.slice none 0 0) (.slice none 0 0)) 53)) w.heap.size wc.heap.size w.heap.size (.slice Av l.length cv) t.room (min (0 + 1) l.length) (.slice none 0 0) (.slice none 0 0) [] [] []) :=
      { head := hHW3, ob := hob2, files := OwnL.nil_ _ _ _, ents := OwnL.nil_ _ _ _, len := rfl, elen := rfl, each := fun i x b hx => (by simp at hx), tk := (hbw3.block w.heap.size (Array.getElem?_eq_some_iff.1 HTK2.out).1).trans HTK2.out, tob := Nat.le_refl _ }
    have HB3 : Hid (Below w.heap.size w (wc.alloc (.cells (headC (Sf.new t.room) (.slice none 0 0) (.slice none 0 0) (.slice none 0 0) (.slice none 0 0)) 53))) := HB2.out.trans (hbw3.mono hob2)
    have HOB : Hid (w.heap.size ≤ wc.heap.size) := hob2
    obtain ⟨ob, hob⟩ : ∃ ob, wc.heap.size = ob := ⟨_, rfl⟩
    rw [hob] at HI HOB
    have HOE : Hid (wc.heap.size = ob) := hob
    clear hHW3 hbw3 hob2 HTK2 hob
    have hd64 := HD64.out
    go_wp2
    rw [HOE.out]
    go_loopw [9, 10, 11, 12, 13] (fun i u10 u11 u12 u13 wr => ∃ (k a : Nat) (vq vn : Value) (rq : List RawF), k ≤ dir.length ∧ i = .int .i64 (k : Nat) ∧ a ≤ l.length ∧ Hid (Sf.rest t (dir.take k) (l.drop 1) = l.drop a) ∧ Hid (FailIn wr w.heap.size ob w.heap.size (.slice Av l.length cv) t.room a vq vn rq (Sf.kept t (dir.take k) (l.drop 1)) (Sf.numbered (dir.take k))) ∧ Hid (Below w.heap.size w wr)) (fun i _ _ _ _ _ => dir.length - (intOf i).toNat)
    case atStart => exact ⟨0, min (0 + 1) l.length, .slice none 0 0, .slice none 0 0, [], by omega, rfl, Nat.min_le_right _ _, by rw [Sf.drop_min]; rfl, HI.out, HB3.out⟩
    case round =>
      obtain ⟨k, a, vq, vn, rq, hk, rfl, hal, HRS, HQ, HBr⟩ := hrel
      clear HI HB3 HB2 c0
      by_cases hlt : k < dir.length
      · have hki : (k : Int) < (dir.length : Int) := by omega
        have hk0 : (0 : Int) ≤ (k : Int) := by omega
        have wk : IntKind.i64.wrap ((k : Int) + 1) = (k : Int) + 1 := by rw [IntKind.wrap_i64]; omega
        have H1 := HLD.out.below_ HBr.out (Nat.le_refl _)
        obtain ⟨bd, od, x, rfl, hbd, hxo, hq, e0, e1⟩ := H1.ent_ hlt
        have hm : x ∈ dir := List.mem_of_getElem? hq
        have hn := HDL.out x hm
        obtain ⟨g, cf, rA, rc, rfl, hgl, hsl, hfo, hrow, hbyt, hact⟩ := HH.out.bytes_at hn
        have HFO := Lib.hid hfo
        have HRW := Lib.hid hrow
        have HBY := Lib.hid hbyt
        have HAC := Lib.hid hact
        have HXO := Lib.hid hxo
        have HTK : Hid (dir.take (k + 1) = dir.take k ++ [x]) := by unfold Hid; rw [List.take_add_one, hq]; rfl
        have HEN : Hid (∀ w', Below w.heap.size w w' → w'.cell? ⟨bd, od + k * 2, none⟩ = some (.string x.1)) := fun w' hb' => by
          obtain ⟨b9, o9, x9, e9, _, _, hq9, f0, _⟩ := (HLD.out.below_ hb' (Nat.le_refl _)).ent_ hlt
          injection e9 with e9
          injection e9 with e91 e92
          subst e91 e92
          rw [hq] at hq9
          injection hq9 with hq9
          rw [hq9]
          exact f0
        obtain ⟨fx, hfx⟩ : ∃ y, Sf.fileAt t x.2 = y := ⟨_, rfl⟩
        rw [hfx] at HFO HRW HBY HAC
        have HFX : Hid (Sf.fileAt t x.2 = fx) := hfx
        have hni : (x.2 : Int) < (t.files.length : Int) := by omega
        have hn0 : (0 : Int) ≤ (x.2 : Int) := by omega
        have c1 : wr.cell? ⟨b, 1, none⟩ = some (.slice (some ⟨g, 0, none⟩) t.files.length cf) := head_cell (HC.out _ HBr.out) rfl
        have hrr : fx.row.length ≤ 2199023255552 := HFO.out.row
        clear H1 hbd hxo hq e0 hm hn hgl hfo hrow hbyt hact hfx
        go_wp2
        go_quiet (fail)
        generalize hW1 : wr.drewN _ = w1
        have hT1 : Turned (fun _ => False) wr w1 := by rw [← hW1]; exact (Turned.refl _ wr).drewN _
        have HQ1 := Lib.hid (HQ.out.fresh hT1 (fun k hk => hk.elim) (by rw [← hW1]; exact HQ.out.tk))
        have hB1 : Below w.heap.size w w1 := by rw [← hW1]; exact below_drewN HBr.out _
        have HB1 := Lib.hid hB1
        have CT := Lib.hid (rtake_any w1 w.heap.size (.slice Av l.length cv) l a B (HV.out.below_ hB1 HBB.out) HBB.out HQ1.out.tk hal (fx.row.length + 1) (by omega) (by omega))
        have hn1 := Sf.took_le (l.drop a) fx.row.length
        obtain ⟨n, hn2⟩ : ∃ n, Sf.took (l.drop a) (fx.row.length + 1) = n := ⟨_, rfl⟩
        rw [hn2] at CT hn1
        have HN := Lib.hid hn2
        have r1 := HRW.out w1 hB1
        clear hW1 hT1 hB1 HQ HBr c1 e1 hn2
        go_wp2_with fail
        refine CT.out.mono ?_
        rintro e2 w2 ⟨rfl, hTk2, hT2⟩
        have HQ2 := Lib.hid (HQ1.out.fresh hT2 (fun k hk => .inl hk) hTk2)
        have hB2 : Below w.heap.size w w2 := HB1.out.trans (hT2.below HB1.out.size (fun k hk => Nat.le_of_eq hk.symm))
        have HB2 := Lib.hid hB2
        have CY := Lib.hid (HBY.out w2 hB2 n hn1)
        clear CT hTk2 hT2 HQ1 HB1 hB2 r1
        go_wp2_with fail
        refine CY.out.mono ?_
        rintro e3 w3 ⟨A3, c3, rfl, ho3, hb3⟩
        have HQ3 := Lib.hid (HQ2.out.below hb3)
        have hB3 := HB2.out.trans (hb3.mono HB2.out.size)
        have HB3 := Lib.hid hB3
        have HO3 : Hid (OwnL yK w3 w.heap.size (.slice A3 (Sf.bytes fx n).length c3) (Sf.bytes fx n)) := ho3.mono_ HB2.out.size
        have r3 := HRW.out w3 hB3
        have hal2 : min (a + 1) l.length ≤ l.length := Nat.min_le_right _ _
        clear CY ho3 hb3 hB3 HQ2 HB2
        have hnl : n ≤ fx.row.length := hn1
        cases hr : fx.row[n]? with
        | none =>
          have hnn : n = fx.row.length := by rw [List.getElem?_eq_none_iff] at hr; omega
          have hni2 : ¬ (n : Int) < (fx.row.length : Int) := by omega
          have hnd : decide (n < fx.row.length) = false := decide_eq_false (by omega)
          have HKP : Hid (Sf.kept1 fx (l.drop a) = (Sf.bytes fx n, l.drop (min (a + 1) l.length))) := by
            unfold Hid
            rw [Sf.kept1_stop HN.out (fun q hq => by rw [hr] at hq; cases hq), List.drop_drop, Sf.drop_min]
          clear hnn hr hnl hn1
          obtain ⟨b4, hb4⟩ : ∃ y, Sf.bytes fx n = y := ⟨_, rfl⟩
          obtain ⟨a2, ha2e⟩ : ∃ y, min (a + 1) l.length = y := ⟨_, rfl⟩
          have ha2 : a2 ≤ l.length := by rw [← ha2e]; exact Nat.min_le_right _ _
          rw [hb4] at HKP HO3
          rw [ha2e] at HKP HQ3
          rw [hb4]
          have HOO := HO3
          have HQQ := HQ3
          have HBB2 := HB3
          clear HO3 HQ3 HB3 hb4 ha2e
          obtain ⟨Aq, cq, eqf, _⟩ := HQQ.out.files.form_
          obtain ⟨An, cn, eqn, _⟩ := HQQ.out.ents.form_
          subst eqf eqn
          have hrl2 : rq.length ≤ 64 := by have h1 := HQQ.out.len; rw [Sf.kept_len, List.length_take] at h1; omega
          have hel2 : (Sf.numbered (dir.take k)).length ≤ 64 := by rw [Sf.numbered_len, List.length_take]; omega
          have HOF := Lib.hid HQQ.out.files
          have HHD := Lib.hid HQQ.out.head
          have HFO2 : Hid ((Value.slice Aq rq.length cq).ownBlock ≠ some ob) := own_kind HQQ.out.files HQQ.out.head (by decide)
          obtain ⟨es, hes⟩ : ∃ es, Sf.numbered (dir.take k) = es := ⟨_, rfl⟩
          obtain ⟨bs, hbs⟩ : ∃ bs, Sf.kept t (dir.take k) (l.drop 1) = bs := ⟨_, rfl⟩
          rw [hes] at HQQ HHD hel2
          rw [hbs] at HQQ
          have HES2 := Lib.hid hes
          have HBS2 := Lib.hid hbs
          have y1 : w3.cell? ⟨ob, 1, none⟩ = some (.slice Aq rq.length cq) := head_cell HHD.out rfl
          have hobl : ob < w3.heap.size := (Array.getElem?_eq_some_iff.1 HHD.out).1
          have HOBL := Lib.hid hobl
          clear hobl hes hbs
          go_wp2_with (at_builtin; go_must (refine wpList_push_m _ fK rfl _ _ rfl w.heap.size _ rfl rq HOF.out rfl (⟨⟨A3, b4.length, c3⟩, ⟨none, 0, 0⟩⟩ : RawF) trivial _ rfl _ rfl (by show _ * 48 ≤ _; omega) (by simp only [maxLen]; omega) HBB2.out.size ?_; intro A6 c6 w6 hA hG hM; have h6 := (hG.block ob HOBL.out (fun e => HFO2.out e.symm)).trans HHD.out; have d16 := head_cell h6 (j := 1) rfl; have z16 : w6.frozen? ⟨ob, 1, none⟩ = false := frozen_of_row w6 ob 1 _ _ h6; have h7 := head_set h6 1 (.slice A6 (rq.length + 1) c6) (C' := headC (Sf.new t.room) (.slice A6 (rq.length + 1) c6) (.slice An es.length cn) (.slice none 0 0) (.slice none 0 0)) rfl; have T7 := Turned.setCell (F := fun k => k = ob) (Turned.refl (fun k => k = ob) w6) (p := ⟨ob, 1, none⟩) (fun _ => rfl) (.slice A6 (rq.length + 1) c6); obtain ⟨w7, hw7⟩ : ∃ w7, w6.setCell ⟨ob, 1, none⟩ (.slice A6 (rq.length + 1) c6) = w7 := ⟨_, rfl⟩; rw [hw7] at h7 T7; have H6 := Lib.hid h6; have H7 := Lib.hid h7; have HT7 := Lib.hid T7; have HA6 := Lib.hid hA; have HG6 := Lib.hid hG; clear hA hG hM h7 T7 h6))
          have hb6 : Below w.heap.size w w6 := HBB2.out.trans ((Turned.of_grown HG6.out).below HBB2.out.size (fun q hq => (HOF.out.lt_ q hq).1))
          have hb7 : Below w.heap.size w w7 := hb6.trans (HT7.out.below hb6.size (fun q hq => hq ▸ HOB.out))
          have HB7 := Lib.hid hb7
          have s0 : w7.drew.cell? ⟨ob, 2, none⟩ = some (.slice An es.length cn) ∧ w7.drew.cell? ⟨bd, od + k * 2, none⟩ = some (.string x.1) := ⟨head_cell (w := w7.drew) H7.out rfl, HEN.out _ hb7.drew⟩
          have hE7 : OwnL eK w7 w.heap.size (.slice An es.length cn) es := (HQQ.out.ents.turned_ (Turned.of_grown HG6.out) (fun q hq e => own_two HOF.out HQQ.out.ents (by decide) e hq)).turned_ HT7.out (fun q hq e => own_kind HQQ.out.ents HHD.out (by decide) (e ▸ hq))
          have HE7 := Lib.hid hE7
          have HEO : Hid ((Value.slice An es.length cn).ownBlock ≠ some ob) := own_kind HQQ.out.ents HHD.out (by decide)
          have hob7 : ob < w7.heap.size := (Array.getElem?_eq_some_iff.1 H7.out).1
          have HO7 := Lib.hid hob7
          clear hb6 hb7 hE7 hob7 d16 z16 hw7 y1
          go_wp2
          refine wp_region_m (fun w' => w'.cell? ⟨ob, 2, none⟩ = some (.slice An es.length cn) ∧ w'.cell? ⟨bd, od + k * 2, none⟩ = some (.string x.1)) 16 (by kernel_rfl) ?_
          refine wpAnyM_take (i := 0) (v := ?_) rfl (by kernel_rfl) (by kernel_rfl) (by kernel_rfl) (by kernel_rfl) (fun _ _ _ h => h) s0 (Or.inl ⟨by rfl, (by intro w' hSw; obtain ⟨q0, q2⟩ := hSw; go_simp; first | done | with_reducible rfl)⟩) ?_
          try simp only [Act.put, List.getElem_toArray, List.getElem_cons_zero, List.setIfInBounds_toArray, List.set_cons_zero, List.set_cons_succ]
          refine wpAnyM_take (i := 1) (v := ?_) rfl (by kernel_rfl) (by kernel_rfl) (by kernel_rfl) (by kernel_rfl) (fun _ _ _ h => h) s0 (Or.inl ⟨by rfl, (by intro w' hSw; obtain ⟨q0, q2⟩ := hSw; go_simp; first | done | with_reducible rfl)⟩) ?_
          try simp only [Act.put, List.getElem_toArray, List.getElem_cons_succ, List.getElem_cons_zero, List.setIfInBounds_toArray, List.set_cons_zero, List.set_cons_succ]
          refine wpAnyM_take (i := 2) (v := ?_) rfl (by kernel_rfl) (by kernel_rfl) (by kernel_rfl) (by kernel_rfl) (fun _ _ _ h => h) s0 (Or.inl ⟨by rfl, (by intro w' hSw; obtain ⟨q0, q2⟩ := hSw; go_simp; first | done | with_reducible rfl)⟩) ?_
          try simp only [Act.put, List.getElem_toArray, List.getElem_cons_succ, List.getElem_cons_zero, List.setIfInBounds_toArray, List.set_cons_zero, List.set_cons_succ]
          refine wpAnyM_take (i := 3) (v := ?_) rfl (by kernel_rfl) (by kernel_rfl) (by kernel_rfl) (by kernel_rfl) (fun _ _ _ h => h) s0 (Or.inl ⟨by rfl, (by intro w' hSw; obtain ⟨q0, q2⟩ := hSw; go_simp; first | done | with_reducible rfl)⟩) ?_
          try simp only [Act.put, List.getElem_toArray, List.getElem_cons_succ, List.getElem_cons_zero, List.setIfInBounds_toArray, List.set_cons_zero, List.set_cons_succ]
          refine wpAnyM_take (i := 4) (v := ?_) rfl (by kernel_rfl) (by kernel_rfl) (by kernel_rfl) (by kernel_rfl) (fun _ _ _ h => h) s0 (Or.inl ⟨by rfl, (by intro w' hSw; obtain ⟨q0, q2⟩ := hSw; go_simp; first | done | with_reducible rfl)⟩) ?_
          try simp only [Act.put, List.getElem_toArray, List.getElem_cons_succ, List.getElem_cons_zero, List.setIfInBounds_toArray, List.set_cons_zero, List.set_cons_succ]
          refine wpAnyM_take (i := 5) (v := ?_) rfl (by kernel_rfl) (by kernel_rfl) (by kernel_rfl) (by kernel_rfl) (fun _ _ _ h => h) s0 (Or.inl ⟨by rfl, (by intro w' hSw; obtain ⟨q0, q2⟩ := hSw; go_simp; first | done | with_reducible rfl)⟩) ?_
          try simp only [Act.put, List.getElem_toArray, List.getElem_cons_succ, List.getElem_cons_zero, List.setIfInBounds_toArray, List.set_cons_zero, List.set_cons_succ]
          refine wpAnyM_take (i := 6) (v := ?_) rfl (by kernel_rfl) (by kernel_rfl) (by kernel_rfl) (by kernel_rfl) (fun _ _ _ h => h) s0 (Or.inl ⟨by rfl, (by intro w' hSw; obtain ⟨q0, q2⟩ := hSw; go_simp; first | done | with_reducible rfl)⟩) ?_
          try simp only [Act.put, List.getElem_toArray, List.getElem_cons_succ, List.getElem_cons_zero, List.setIfInBounds_toArray, List.set_cons_zero, List.set_cons_succ]
          refine wpAnyM_take (i := 7) (v := ?_) rfl (by kernel_rfl) (by kernel_rfl) (by kernel_rfl) (by kernel_rfl) (fun _ _ _ h => h) s0 (Or.inl ⟨by rfl, (by intro w' hSw; obtain ⟨q0, q2⟩ := hSw; go_simp; first | done | with_reducible rfl)⟩) ?_
          try simp only [Act.put, List.getElem_toArray, List.getElem_cons_succ, List.getElem_cons_zero, List.setIfInBounds_toArray, List.set_cons_zero, List.set_cons_succ]
          refine wpAnyM_take (i := 8) (v := ?_) rfl (by kernel_rfl) (by kernel_rfl) (by kernel_rfl) (by kernel_rfl) (fun _ _ _ h => h) s0 (Or.inl ⟨by rfl, (by intro w' hSw; obtain ⟨q0, q2⟩ := hSw; go_simp; first | done | with_reducible rfl)⟩) ?_
          try simp only [Act.put, List.getElem_toArray, List.getElem_cons_succ, List.getElem_cons_zero, List.setIfInBounds_toArray, List.set_cons_zero, List.set_cons_succ]
          refine wpAnyM_take (i := 9) (v := ?_) rfl (by kernel_rfl) (by kernel_rfl) (by kernel_rfl) (by kernel_rfl) (fun _ _ _ h => h) s0 (Or.inl ⟨by rfl, (by intro w' hSw; obtain ⟨q0, q2⟩ := hSw; go_simp; first | done | with_reducible rfl)⟩) ?_
          try simp only [Act.put, List.getElem_toArray, List.getElem_cons_succ, List.getElem_cons_zero, List.setIfInBounds_toArray, List.set_cons_zero, List.set_cons_succ]
          refine wpAnyM_take (i := 10) (v := ?_) rfl (by kernel_rfl) (by kernel_rfl) (by kernel_rfl) (by kernel_rfl) (fun _ _ _ h => h) s0 (Or.inl ⟨by rfl, (by intro w' hSw; obtain ⟨q0, q2⟩ := hSw; go_simp; first | done | with_reducible rfl)⟩) ?_
          try simp only [Act.put, List.getElem_toArray, List.getElem_cons_succ, List.getElem_cons_zero, List.setIfInBounds_toArray, List.set_cons_zero, List.set_cons_succ]
          refine wpAnyM_take (i := 11) (v := ?_) rfl (by kernel_rfl) (by kernel_rfl) (by kernel_rfl) (by kernel_rfl) (fun _ _ _ h => h) s0 (Or.inl ⟨by rfl, (by intro w' hSw; obtain ⟨q0, q2⟩ := hSw; go_simp; first | done | with_reducible rfl)⟩) ?_
          try simp only [Act.put, List.getElem_toArray, List.getElem_cons_succ, List.getElem_cons_zero, List.setIfInBounds_toArray, List.set_cons_zero, List.set_cons_succ]
          refine wpAnyM_next (i := 12) (by kernel_rfl) rfl (fun K hK => ?_)
          go_simp
          have s1 : (w7.drew.alloc (.cells #[.string x.1, .int .i64 (k : Nat)] 98)).cell? ⟨ob, 2, none⟩ = some (.slice An es.length cn) ∧ (w7.drew.alloc (.cells #[.string x.1, .int .i64 (k : Nat)] 98)).cell? ⟨bd, od + k * 2, none⟩ = some (.string x.1) :=
            ⟨(((Below.refl w7.heap.size w7).drew.alloc (Nat.le_refl _) _).cell (p := ⟨ob, 2, none⟩) HO7.out).trans s0.1, HEN.out _ (HB7.out.drew.alloc HB7.out.size _)⟩
          refine hK.out _ _ (.inr s1) ?_
          clear hK K
          try simp only [Act.put, List.getElem_toArray, List.getElem_cons_succ, List.getElem_cons_zero, List.setIfInBounds_toArray, List.set_cons_zero, List.set_cons_succ]
          refine wpAnyM_next (i := 13) (by kernel_rfl) rfl (fun K hK => ?_)
          refine step_push_m w7.drew eK rfl _ _ rfl w.heap.size (.slice An es.length cn) rfl es HE7.out.drew_ rfl (x.1, k) ⟨HXO.out.1, by show k < 2199023255552; omega⟩ _ rfl _ rfl (by show (_ + 1) * 24 ≤ _; omega) (by simp only [maxLen]; omega) HB7.out.drew.size ?_
          intro A9 c9 w9 hA9 hG9 hM9
          have T9 : Turned (fun k => (Value.slice An es.length cn).ownBlock = some k) w7 w9 := (Turned.refl _ w7).drew.trans (Turned.of_grown hG9) (fun _ _ h => h)
          have h9 : w9.heap[ob]? = some (.cells (headC (Sf.new t.room) (.slice A6 (rq.length + 1) c6) (.slice An es.length cn) (.slice none 0 0) (.slice none 0 0)) 53 (0, 0)) := (T9.block ob HO7.out HEO.out).trans H7.out
          have hb9 : Below w.heap.size w w9 := HB7.out.trans (T9.below HB7.out.size (fun q hq => (HE7.out.lt_ q hq).1))
          have s2 : w9.cell? ⟨ob, 2, none⟩ = some (.slice An es.length cn) ∧ w9.cell? ⟨bd, od + k * 2, none⟩ = some (.string x.1) := ⟨head_cell h9 rfl, HEN.out _ hb9⟩
          refine hK.out _ _ (.inr s2) ?_
          clear hK K s1 s0
          try simp only [Act.put, List.getElem_toArray, List.getElem_cons_succ, List.getElem_cons_zero, List.setIfInBounds_toArray, List.set_cons_zero, List.set_cons_succ]
          refine wpAnyM_next (i := 14) (by kernel_rfl) rfl (fun K hK => ?_)
          go_simp
          refine hK.out _ _ (.inr s2) ?_
          clear hK K
          try simp only [Act.put, List.getElem_toArray, List.getElem_cons_succ, List.getElem_cons_zero, List.setIfInBounds_toArray, List.set_cons_zero, List.set_cons_succ]
          refine wpAnyM_next (i := 15) (by kernel_rfl) rfl (fun K hK => ?_)
          go_simp
          refine hK.out _ _ (.inr s2) ?_
          clear hK K
          try simp only [Act.put, List.getElem_toArray, List.getElem_cons_succ, List.getElem_cons_zero, List.setIfInBounds_toArray, List.set_cons_zero, List.set_cons_succ]
          have z9 : w9.frozen? ⟨ob, 2, none⟩ = false := frozen_of_row w9 ob 2 _ _ h9
          have y9 := s2.1
          have hz := head_set h9 2 (.slice A9 (es.length + 1) c9) (C' := headC (Sf.new t.room) (.slice A6 (rq.length + 1) c6) (.slice A9 (es.length + 1) c9) (.slice none 0 0) (.slice none 0 0)) rfl
          have Tz := Turned.setCell (F := fun k => k = ob) (Turned.refl (fun k => k = ob) w9) (p := ⟨ob, 2, none⟩) (fun _ => rfl) (.slice A9 (es.length + 1) c9)
          obtain ⟨wz, hwz⟩ : ∃ wz, w9.setCell ⟨ob, 2, none⟩ (.slice A9 (es.length + 1) c9) = wz := ⟨_, rfl⟩
          rw [hwz] at hz Tz
          refine wpAnyM_next (i := 16) (by kernel_rfl) rfl (fun K hK => ?_)
          go_simp
          refine hK.out _ _ (.inl (Nat.le_refl _)) ?_
          clear hK K
          try simp only [Act.put, List.getElem_toArray, List.getElem_cons_succ, List.getElem_cons_zero, List.setIfInBounds_toArray, List.set_cons_zero, List.set_cons_succ]
          refine wpAnyM_done (by kernel_rfl) ?_ _
          have HQZ := Lib.hid (HQQ.out.file (sl := ⟨A3, b4.length, c3⟩) HOO.out HA6.out HG6.out HT7.out H7.out H6.out hA9 T9 Tz hz)
          have HBZ := Lib.hid (hb9.trans (Tz.below hb9.size (fun q hq => hq ▸ HOB.out)))
          have HKS : Hid (Sf.kept t (dir.take (k + 1)) (l.drop 1) = bs ++ [b4]) := by unfold Hid; rw [HTK.out, Sf.kept_snoc, HRS.out, HFX.out, HKP.out, HBS2.out]
          have HRS2 : Hid (Sf.rest t (dir.take (k + 1)) (l.drop 1) = l.drop a2) := by unfold Hid; rw [HTK.out, Sf.rest_snoc, HRS.out, HFX.out, HKP.out]
          have HNS : Hid (Sf.numbered (dir.take (k + 1)) = es ++ [(x.1, k)]) := by unfold Hid; rw [HTK.out, Sf.numbered_snoc, HES2.out, List.length_take, Nat.min_eq_left (by omega)]
          clear s2 z9 y9 h9 hz Tz T9 hA9 hG9 hM9 hb9 hwz
          go_wp2
          go_roundw
          case rel => exact ⟨k + 1, a2, _, _, _, by omega, by go_num, ha2, HRS2.out, by rw [HKS.out, HNS.out]; exact HQZ.out, HBZ.out⟩
          case measure => simp [intOf]; omega
        | some act =>
          have hnlt : n < fx.row.length := (List.getElem?_eq_some_iff.1 hr).1
          have hni2 : (n : Int) < (fx.row.length : Int) := by omega
          have hni0 : (0 : Int) ≤ (n : Int) := by omega
          have hnd : decide (n < fx.row.length) = true := decide_eq_true hnlt
          obtain ⟨bo, off, sl, rfl, hsn, hat, hcell⟩ := HAC.out n act hr
          have HCL := Lib.hid hcell
          obtain ⟨g0, g1, g2, hLs⟩ := hcell w3 HB3.out
          rw [hsn] at g2
          have hab := (HFO.out.at_ n act hr).2.1
          have hatl := (HFO.out.at_ n act hr).1
          cases hc : act.cut with
          | true =>
            have HKP : Hid (Sf.kept1 fx (l.drop a) = (Sf.bytes fx n, l.drop (min (a + 1) l.length))) := by
              unfold Hid
              rw [Sf.kept1_stop HN.out (fun q hq => by rw [hr] at hq; injection hq with hq; rw [← hq]; exact hc), List.drop_drop, Sf.drop_min]
            rw [hc] at g0
            clear hc hr hnl hn1 hcell hLs g1 g2
            obtain ⟨b4, hb4⟩ : ∃ y, Sf.bytes fx n = y := ⟨_, rfl⟩
            obtain ⟨a2, ha2e⟩ : ∃ y, min (a + 1) l.length = y := ⟨_, rfl⟩
            have ha2 : a2 ≤ l.length := by rw [← ha2e]; exact Nat.min_le_right _ _
            rw [hb4] at HKP HO3
            rw [ha2e] at HKP HQ3
            rw [hb4]
            have HOO := HO3
            have HQQ := HQ3
            have HBB2 := HB3
            clear HO3 HQ3 HB3 hb4 ha2e
            obtain ⟨Aq, cq, eqf, _⟩ := HQQ.out.files.form_
            obtain ⟨An, cn, eqn, _⟩ := HQQ.out.ents.form_
            subst eqf eqn
            have hrl2 : rq.length ≤ 64 := by have h1 := HQQ.out.len; rw [Sf.kept_len, List.length_take] at h1; omega
            have hel2 : (Sf.numbered (dir.take k)).length ≤ 64 := by rw [Sf.numbered_len, List.length_take]; omega
            have HOF := Lib.hid HQQ.out.files
            have HHD := Lib.hid HQQ.out.head
            have HFO2 : Hid ((Value.slice Aq rq.length cq).ownBlock ≠ some ob) := own_kind HQQ.out.files HQQ.out.head (by decide)
            obtain ⟨es, hes⟩ : ∃ es, Sf.numbered (dir.take k) = es := ⟨_, rfl⟩
            obtain ⟨bs, hbs⟩ : ∃ bs, Sf.kept t (dir.take k) (l.drop 1) = bs := ⟨_, rfl⟩
            rw [hes] at HQQ HHD hel2
            rw [hbs] at HQQ
            have HES2 := Lib.hid hes
            have HBS2 := Lib.hid hbs
            have y1 : w3.cell? ⟨ob, 1, none⟩ = some (.slice Aq rq.length cq) := head_cell HHD.out rfl
            have hobl : ob < w3.heap.size := (Array.getElem?_eq_some_iff.1 HHD.out).1
            have HOBL := Lib.hid hobl
            clear hobl hes hbs
            go_wp2_with (at_builtin; go_must (refine wpList_push_m _ fK rfl _ _ rfl w.heap.size _ rfl rq HOF.out rfl (⟨⟨A3, b4.length, c3⟩, ⟨none, 0, 0⟩⟩ : RawF) trivial _ rfl _ rfl (by show _ * 48 ≤ _; omega) (by simp only [maxLen]; omega) HBB2.out.size ?_; intro A6 c6 w6 hA hG hM; have h6 := (hG.block ob HOBL.out (fun e => HFO2.out e.symm)).trans HHD.out; have d16 := head_cell h6 (j := 1) rfl; have z16 : w6.frozen? ⟨ob, 1, none⟩ = false := frozen_of_row w6 ob 1 _ _ h6; have h7 := head_set h6 1 (.slice A6 (rq.length + 1) c6) (C' := headC (Sf.new t.room) (.slice A6 (rq.length + 1) c6) (.slice An es.length cn) (.slice none 0 0) (.slice none 0 0)) rfl; have T7 := Turned.setCell (F := fun k => k = ob) (Turned.refl (fun k => k = ob) w6) (p := ⟨ob, 1, none⟩) (fun _ => rfl) (.slice A6 (rq.length + 1) c6); obtain ⟨w7, hw7⟩ : ∃ w7, w6.setCell ⟨ob, 1, none⟩ (.slice A6 (rq.length + 1) c6) = w7 := ⟨_, rfl⟩; rw [hw7] at h7 T7; have H6 := Lib.hid h6; have H7 := Lib.hid h7; have HT7 := Lib.hid T7; have HA6 := Lib.hid hA; have HG6 := Lib.hid hG; clear hA hG hM h7 T7 h6))
            have hb6 : Below w.heap.size w w6 := HBB2.out.trans ((Turned.of_grown HG6.out).below HBB2.out.size (fun q hq => (HOF.out.lt_ q hq).1))
            have hb7 : Below w.heap.size w w7 := hb6.trans (HT7.out.below hb6.size (fun q hq => hq ▸ HOB.out))
            have HB7 := Lib.hid hb7
            have s0 : w7.drew.cell? ⟨ob, 2, none⟩ = some (.slice An es.length cn) ∧ w7.drew.cell? ⟨bd, od + k * 2, none⟩ = some (.string x.1) := ⟨head_cell (w := w7.drew) H7.out rfl, HEN.out _ hb7.drew⟩
            have hE7 : OwnL eK w7 w.heap.size (.slice An es.length cn) es := (HQQ.out.ents.turned_ (Turned.of_grown HG6.out) (fun q hq e => own_two HOF.out HQQ.out.ents (by decide) e hq)).turned_ HT7.out (fun q hq e => own_kind HQQ.out.ents HHD.out (by decide) (e ▸ hq))
            have HE7 := Lib.hid hE7
            have HEO : Hid ((Value.slice An es.length cn).ownBlock ≠ some ob) := own_kind HQQ.out.ents HHD.out (by decide)
            have hob7 : ob < w7.heap.size := (Array.getElem?_eq_some_iff.1 H7.out).1
            have HO7 := Lib.hid hob7
            clear hb6 hb7 hE7 hob7 d16 z16 hw7 y1
            go_wp2
            refine wp_region_m (fun w' => w'.cell? ⟨ob, 2, none⟩ = some (.slice An es.length cn) ∧ w'.cell? ⟨bd, od + k * 2, none⟩ = some (.string x.1)) 16 (by kernel_rfl) ?_
            refine wpAnyM_take (i := 0) (v := ?_) rfl (by kernel_rfl) (by kernel_rfl) (by kernel_rfl) (by kernel_rfl) (fun _ _ _ h => h) s0 (Or.inl ⟨by rfl, (by intro w' hSw; obtain ⟨q0, q2⟩ := hSw; go_simp; first | done | with_reducible rfl)⟩) ?_
            try simp only [Act.put, List.getElem_toArray, List.getElem_cons_zero, List.setIfInBounds_toArray, List.set_cons_zero, List.set_cons_succ]
            refine wpAnyM_take (i := 1) (v := ?_) rfl (by kernel_rfl) (by kernel_rfl) (by kernel_rfl) (by kernel_rfl) (fun _ _ _ h => h) s0 (Or.inl ⟨by rfl, (by intro w' hSw; obtain ⟨q0, q2⟩ := hSw; go_simp; first | done | with_reducible rfl)⟩) ?_
            try simp only [Act.put, List.getElem_toArray, List.getElem_cons_succ, List.getElem_cons_zero, List.setIfInBounds_toArray, List.set_cons_zero, List.set_cons_succ]
            refine wpAnyM_take (i := 2) (v := ?_) rfl (by kernel_rfl) (by kernel_rfl) (by kernel_rfl) (by kernel_rfl) (fun _ _ _ h => h) s0 (Or.inl ⟨by rfl, (by intro w' hSw; obtain ⟨q0, q2⟩ := hSw; go_simp; first | done | with_reducible rfl)⟩) ?_
            try simp only [Act.put, List.getElem_toArray, List.getElem_cons_succ, List.getElem_cons_zero, List.setIfInBounds_toArray, List.set_cons_zero, List.set_cons_succ]
            refine wpAnyM_take (i := 3) (v := ?_) rfl (by kernel_rfl) (by kernel_rfl) (by kernel_rfl) (by kernel_rfl) (fun _ _ _ h => h) s0 (Or.inl ⟨by rfl, (by intro w' hSw; obtain ⟨q0, q2⟩ := hSw; go_simp; first | done | with_reducible rfl)⟩) ?_
            try simp only [Act.put, List.getElem_toArray, List.getElem_cons_succ, List.getElem_cons_zero, List.setIfInBounds_toArray, List.set_cons_zero, List.set_cons_succ]
            refine wpAnyM_take (i := 4) (v := ?_) rfl (by kernel_rfl) (by kernel_rfl) (by kernel_rfl) (by kernel_rfl) (fun _ _ _ h => h) s0 (Or.inl ⟨by rfl, (by intro w' hSw; obtain ⟨q0, q2⟩ := hSw; go_simp; first | done | with_reducible rfl)⟩) ?_
            try simp only [Act.put, List.getElem_toArray, List.getElem_cons_succ, List.getElem_cons_zero, List.setIfInBounds_toArray, List.set_cons_zero, List.set_cons_succ]
            refine wpAnyM_take (i := 5) (v := ?_) rfl (by kernel_rfl) (by kernel_rfl) (by kernel_rfl) (by kernel_rfl) (fun _ _ _ h => h) s0 (Or.inl ⟨by rfl, (by intro w' hSw; obtain ⟨q0, q2⟩ := hSw; go_simp; first | done | with_reducible rfl)⟩) ?_
            try simp only [Act.put, List.getElem_toArray, List.getElem_cons_succ, List.getElem_cons_zero, List.setIfInBounds_toArray, List.set_cons_zero, List.set_cons_succ]
            refine wpAnyM_take (i := 6) (v := ?_) rfl (by kernel_rfl) (by kernel_rfl) (by kernel_rfl) (by kernel_rfl) (fun _ _ _ h => h) s0 (Or.inl ⟨by rfl, (by intro w' hSw; obtain ⟨q0, q2⟩ := hSw; go_simp; first | done | with_reducible rfl)⟩) ?_
            try simp only [Act.put, List.getElem_toArray, List.getElem_cons_succ, List.getElem_cons_zero, List.setIfInBounds_toArray, List.set_cons_zero, List.set_cons_succ]
            refine wpAnyM_take (i := 7) (v := ?_) rfl (by kernel_rfl) (by kernel_rfl) (by kernel_rfl) (by kernel_rfl) (fun _ _ _ h => h) s0 (Or.inl ⟨by rfl, (by intro w' hSw; obtain ⟨q0, q2⟩ := hSw; go_simp; first | done | with_reducible rfl)⟩) ?_
            try simp only [Act.put, List.getElem_toArray, List.getElem_cons_succ, List.getElem_cons_zero, List.setIfInBounds_toArray, List.set_cons_zero, List.set_cons_succ]
            refine wpAnyM_take (i := 8) (v := ?_) rfl (by kernel_rfl) (by kernel_rfl) (by kernel_rfl) (by kernel_rfl) (fun _ _ _ h => h) s0 (Or.inl ⟨by rfl, (by intro w' hSw; obtain ⟨q0, q2⟩ := hSw; go_simp; first | done | with_reducible rfl)⟩) ?_
            try simp only [Act.put, List.getElem_toArray, List.getElem_cons_succ, List.getElem_cons_zero, List.setIfInBounds_toArray, List.set_cons_zero, List.set_cons_succ]
            refine wpAnyM_take (i := 9) (v := ?_) rfl (by kernel_rfl) (by kernel_rfl) (by kernel_rfl) (by kernel_rfl) (fun _ _ _ h => h) s0 (Or.inl ⟨by rfl, (by intro w' hSw; obtain ⟨q0, q2⟩ := hSw; go_simp; first | done | with_reducible rfl)⟩) ?_
            try simp only [Act.put, List.getElem_toArray, List.getElem_cons_succ, List.getElem_cons_zero, List.setIfInBounds_toArray, List.set_cons_zero, List.set_cons_succ]
            refine wpAnyM_take (i := 10) (v := ?_) rfl (by kernel_rfl) (by kernel_rfl) (by kernel_rfl) (by kernel_rfl) (fun _ _ _ h => h) s0 (Or.inl ⟨by rfl, (by intro w' hSw; obtain ⟨q0, q2⟩ := hSw; go_simp; first | done | with_reducible rfl)⟩) ?_
            try simp only [Act.put, List.getElem_toArray, List.getElem_cons_succ, List.getElem_cons_zero, List.setIfInBounds_toArray, List.set_cons_zero, List.set_cons_succ]
            refine wpAnyM_take (i := 11) (v := ?_) rfl (by kernel_rfl) (by kernel_rfl) (by kernel_rfl) (by kernel_rfl) (fun _ _ _ h => h) s0 (Or.inl ⟨by rfl, (by intro w' hSw; obtain ⟨q0, q2⟩ := hSw; go_simp; first | done | with_reducible rfl)⟩) ?_
            try simp only [Act.put, List.getElem_toArray, List.getElem_cons_succ, List.getElem_cons_zero, List.setIfInBounds_toArray, List.set_cons_zero, List.set_cons_succ]
            refine wpAnyM_next (i := 12) (by kernel_rfl) rfl (fun K hK => ?_)
            go_simp
            have s1 : (w7.drew.alloc (.cells #[.string x.1, .int .i64 (k : Nat)] 98)).cell? ⟨ob, 2, none⟩ = some (.slice An es.length cn) ∧ (w7.drew.alloc (.cells #[.string x.1, .int .i64 (k : Nat)] 98)).cell? ⟨bd, od + k * 2, none⟩ = some (.string x.1) :=
              ⟨(((Below.refl w7.heap.size w7).drew.alloc (Nat.le_refl _) _).cell (p := ⟨ob, 2, none⟩) HO7.out).trans s0.1, HEN.out _ (HB7.out.drew.alloc HB7.out.size _)⟩
            refine hK.out _ _ (.inr s1) ?_
            clear hK K
            try simp only [Act.put, List.getElem_toArray, List.getElem_cons_succ, List.getElem_cons_zero, List.setIfInBounds_toArray, List.set_cons_zero, List.set_cons_succ]
            refine wpAnyM_next (i := 13) (by kernel_rfl) rfl (fun K hK => ?_)
            refine step_push_m w7.drew eK rfl _ _ rfl w.heap.size (.slice An es.length cn) rfl es HE7.out.drew_ rfl (x.1, k) ⟨HXO.out.1, by show k < 2199023255552; omega⟩ _ rfl _ rfl (by show (_ + 1) * 24 ≤ _; omega) (by simp only [maxLen]; omega) HB7.out.drew.size ?_
            intro A9 c9 w9 hA9 hG9 hM9
            have T9 : Turned (fun k => (Value.slice An es.length cn).ownBlock = some k) w7 w9 := (Turned.refl _ w7).drew.trans (Turned.of_grown hG9) (fun _ _ h => h)
            have h9 : w9.heap[ob]? = some (.cells (headC (Sf.new t.room) (.slice A6 (rq.length + 1) c6) (.slice An es.length cn) (.slice none 0 0) (.slice none 0 0)) 53 (0, 0)) := (T9.block ob HO7.out HEO.out).trans H7.out
            have hb9 : Below w.heap.size w w9 := HB7.out.trans (T9.below HB7.out.size (fun q hq => (HE7.out.lt_ q hq).1))
            have s2 : w9.cell? ⟨ob, 2, none⟩ = some (.slice An es.length cn) ∧ w9.cell? ⟨bd, od + k * 2, none⟩ = some (.string x.1) := ⟨head_cell h9 rfl, HEN.out _ hb9⟩
            refine hK.out _ _ (.inr s2) ?_
            clear hK K s1 s0
            try simp only [Act.put, List.getElem_toArray, List.getElem_cons_succ, List.getElem_cons_zero, List.setIfInBounds_toArray, List.set_cons_zero, List.set_cons_succ]
            refine wpAnyM_next (i := 14) (by kernel_rfl) rfl (fun K hK => ?_)
            go_simp
            refine hK.out _ _ (.inr s2) ?_
            clear hK K
            try simp only [Act.put, List.getElem_toArray, List.getElem_cons_succ, List.getElem_cons_zero, List.setIfInBounds_toArray, List.set_cons_zero, List.set_cons_succ]
            refine wpAnyM_next (i := 15) (by kernel_rfl) rfl (fun K hK => ?_)
            go_simp
            refine hK.out _ _ (.inr s2) ?_
            clear hK K
            try simp only [Act.put, List.getElem_toArray, List.getElem_cons_succ, List.getElem_cons_zero, List.setIfInBounds_toArray, List.set_cons_zero, List.set_cons_succ]
            have z9 : w9.frozen? ⟨ob, 2, none⟩ = false := frozen_of_row w9 ob 2 _ _ h9
            have y9 := s2.1
            have hz := head_set h9 2 (.slice A9 (es.length + 1) c9) (C' := headC (Sf.new t.room) (.slice A6 (rq.length + 1) c6) (.slice A9 (es.length + 1) c9) (.slice none 0 0) (.slice none 0 0)) rfl
            have Tz := Turned.setCell (F := fun k => k = ob) (Turned.refl (fun k => k = ob) w9) (p := ⟨ob, 2, none⟩) (fun _ => rfl) (.slice A9 (es.length + 1) c9)
            obtain ⟨wz, hwz⟩ : ∃ wz, w9.setCell ⟨ob, 2, none⟩ (.slice A9 (es.length + 1) c9) = wz := ⟨_, rfl⟩
            rw [hwz] at hz Tz
            refine wpAnyM_next (i := 16) (by kernel_rfl) rfl (fun K hK => ?_)
            go_simp
            refine hK.out _ _ (.inl (Nat.le_refl _)) ?_
            clear hK K
            try simp only [Act.put, List.getElem_toArray, List.getElem_cons_succ, List.getElem_cons_zero, List.setIfInBounds_toArray, List.set_cons_zero, List.set_cons_succ]
            refine wpAnyM_done (by kernel_rfl) ?_ _
            have HQZ := Lib.hid (HQQ.out.file (sl := ⟨A3, b4.length, c3⟩) HOO.out HA6.out HG6.out HT7.out H7.out H6.out hA9 T9 Tz hz)
            have HBZ := Lib.hid (hb9.trans (Tz.below hb9.size (fun q hq => hq ▸ HOB.out)))
            have HKS : Hid (Sf.kept t (dir.take (k + 1)) (l.drop 1) = bs ++ [b4]) := by unfold Hid; rw [HTK.out, Sf.kept_snoc, HRS.out, HFX.out, HKP.out, HBS2.out]
            have HRS2 : Hid (Sf.rest t (dir.take (k + 1)) (l.drop 1) = l.drop a2) := by unfold Hid; rw [HTK.out, Sf.rest_snoc, HRS.out, HFX.out, HKP.out]
            have HNS : Hid (Sf.numbered (dir.take (k + 1)) = es ++ [(x.1, k)]) := by unfold Hid; rw [HTK.out, Sf.numbered_snoc, HES2.out, List.length_take, Nat.min_eq_left (by omega)]
            clear s2 z9 y9 h9 hz Tz T9 hA9 hG9 hM9 hb9 hwz
            go_wp2
            go_roundw
            case rel => exact ⟨k + 1, a2, _, _, _, by omega, by go_num, ha2, HRS2.out, by rw [HKS.out, HNS.out]; exact HQZ.out, HBZ.out⟩
            case measure => simp [intOf]; omega
          | false =>
            rw [hc] at g0
            have CT2 := Lib.hid (rtake_any w3 w.heap.size (.slice Av l.length cv) l (min (a + 1) l.length) B (HV.out.below_ HB3.out HBB.out) HBB.out HQ3.out.tk hal2 (act.b.length + 1) (by omega) (by omega))
            have hm1 := Sf.took_le (l.drop (min (a + 1) l.length)) act.b.length
            obtain ⟨m, hm2⟩ : ∃ m, Sf.took (l.drop (min (a + 1) l.length)) (act.b.length + 1) = m := ⟨_, rfl⟩
            rw [hm2] at CT2 hm1
            have HKP : Hid (Sf.kept1 fx (l.drop a) = (Sf.torn (Sf.bytes fx n) ⟨false, act.at_, act.b⟩ m, l.drop (min (min (a + 1) l.length + 1) l.length))) := by
              unfold Hid
              rw [Sf.kept1_torn HN.out hr hc, List.drop_drop, ← hm2, Sf.drop_min l a, show act = ⟨false, act.at_, act.b⟩ by rw [← hc]]
              refine Prod.ext rfl ?_
              show (l.drop a).drop 2 = _
              exact (Sf.drop_min2 l a).symm
            have HM1 := Lib.hid hm1
            have HHC := Lib.hid hc
            clear hc hr hnl hn1 hcell hLs hm2 hm1
            go_wp2_with fail
            refine CT2.out.mono ?_
            rintro e4 w4 ⟨rfl, hTk4, hT4⟩
            have HQ4 := Lib.hid (HQ3.out.fresh hT4 (fun k hk => .inl hk) hTk4)
            have hB4 : Below w.heap.size w w4 := HB3.out.trans (hT4.below HB3.out.size (fun k hk => Nat.le_of_eq hk.symm))
            have HB4 := Lib.hid hB4
            have HO4 : Hid (OwnL yK w4 w.heap.size (.slice A3 (Sf.bytes fx n).length c3) (Sf.bytes fx n)) := HO3.out.turned_ hT4 (fun k hk e => own_kind HO3.out HQ3.out.tk (by decide) (e ▸ hk))
            obtain ⟨g04, g14, g24, hLs4⟩ := HCL.out w4 hB4
            rw [hsn] at g24
            rw [HHC.out] at g04
            have r4 := HRW.out w4 hB4
            have hLs5 : Lv yK w4 w.heap.size (.slice sl.A act.b.length sl.c) act.b := by rw [← hsn]; exact hLs4
            have CR := Lib.hid (rtorn_any (.slice A3 (Sf.bytes fx n).length c3) (Sf.bytes fx n) w.heap.size w4 HO4.out hB4.size act.at_ (.slice sl.A act.b.length sl.c) act.b w.heap.size hB4.size hLs5 hatl (HFO.out.len n (by omega)) hab m HM1.out)
            clear CT2 hTk4 hT4 hB4 HQ3 HB3 HO3 g0 g1 g2 r3 hLs4 hLs5
            go_wp2_with fail
            refine CR.out.mono ?_
            rintro e5 w5 ⟨A5, c5, rfl, ho5, hb5⟩
            have HQ5 := Lib.hid (HQ4.out.below hb5)
            have HB5 := Lib.hid (HB4.out.trans (hb5.mono HB4.out.size))
            have HO5 := Lib.hid ho5
            clear CR ho5 hb5 HQ4 HB4 HO4 g04 g14 g24 r4
            obtain ⟨b4, hb4⟩ : ∃ y, Sf.torn (Sf.bytes fx n) ⟨false, act.at_, act.b⟩ m = y := ⟨_, rfl⟩
            obtain ⟨a2, ha2e⟩ : ∃ y, min (min (a + 1) l.length + 1) l.length = y := ⟨_, rfl⟩
            have ha2 : a2 ≤ l.length := by rw [← ha2e]; exact Nat.min_le_right _ _
            rw [hb4] at HKP HO5
            rw [ha2e] at HKP HQ5
            rw [hb4]
            have HOO := HO5
            have HQQ := HQ5
            have HBB2 := HB5
            clear HO5 HQ5 HB5 hb4 ha2e
            obtain ⟨Aq, cq, eqf, _⟩ := HQQ.out.files.form_
            obtain ⟨An, cn, eqn, _⟩ := HQQ.out.ents.form_
            subst eqf eqn
            have hrl2 : rq.length ≤ 64 := by have h1 := HQQ.out.len; rw [Sf.kept_len, List.length_take] at h1; omega
            have hel2 : (Sf.numbered (dir.take k)).length ≤ 64 := by rw [Sf.numbered_len, List.length_take]; omega
            have HOF := Lib.hid HQQ.out.files
            have HHD := Lib.hid HQQ.out.head
            have HFO2 : Hid ((Value.slice Aq rq.length cq).ownBlock ≠ some ob) := own_kind HQQ.out.files HQQ.out.head (by decide)
            obtain ⟨es, hes⟩ : ∃ es, Sf.numbered (dir.take k) = es := ⟨_, rfl⟩
            obtain ⟨bs, hbs⟩ : ∃ bs, Sf.kept t (dir.take k) (l.drop 1) = bs := ⟨_, rfl⟩
            rw [hes] at HQQ HHD hel2
            rw [hbs] at HQQ
            have HES2 := Lib.hid hes
            have HBS2 := Lib.hid hbs
            have y1 : w5.cell? ⟨ob, 1, none⟩ = some (.slice Aq rq.length cq) := head_cell HHD.out rfl
            have hobl : ob < w5.heap.size := (Array.getElem?_eq_some_iff.1 HHD.out).1
            have HOBL := Lib.hid hobl
            clear hobl hes hbs
            go_wp2_with (at_builtin; go_must (refine wpList_push_m _ fK rfl _ _ rfl w.heap.size _ rfl rq HOF.out rfl (⟨⟨A5, b4.length, c5⟩, ⟨none, 0, 0⟩⟩ : RawF) trivial _ rfl _ rfl (by show _ * 48 ≤ _; omega) (by simp only [maxLen]; omega) HBB2.out.size ?_; intro A6 c6 w6 hA hG hM; have h6 := (hG.block ob HOBL.out (fun e => HFO2.out e.symm)).trans HHD.out; have d16 := head_cell h6 (j := 1) rfl; have z16 : w6.frozen? ⟨ob, 1, none⟩ = false := frozen_of_row w6 ob 1 _ _ h6; have h7 := head_set h6 1 (.slice A6 (rq.length + 1) c6) (C' := headC (Sf.new t.room) (.slice A6 (rq.length + 1) c6) (.slice An es.length cn) (.slice none 0 0) (.slice none 0 0)) rfl; have T7 := Turned.setCell (F := fun k => k = ob) (Turned.refl (fun k => k = ob) w6) (p := ⟨ob, 1, none⟩) (fun _ => rfl) (.slice A6 (rq.length + 1) c6); obtain ⟨w7, hw7⟩ : ∃ w7, w6.setCell ⟨ob, 1, none⟩ (.slice A6 (rq.length + 1) c6) = w7 := ⟨_, rfl⟩; rw [hw7] at h7 T7; have H6 := Lib.hid h6; have H7 := Lib.hid h7; have HT7 := Lib.hid T7; have HA6 := Lib.hid hA; have HG6 := Lib.hid hG; clear hA hG hM h7 T7 h6))
            have hb6 : Below w.heap.size w w6 := HBB2.out.trans ((Turned.of_grown HG6.out).below HBB2.out.size (fun q hq => (HOF.out.lt_ q hq).1))
            have hb7 : Below w.heap.size w w7 := hb6.trans (HT7.out.below hb6.size (fun q hq => hq ▸ HOB.out))
            have HB7 := Lib.hid hb7
            have s0 : w7.drew.cell? ⟨ob, 2, none⟩ = some (.slice An es.length cn) ∧ w7.drew.cell? ⟨bd, od + k * 2, none⟩ = some (.string x.1) := ⟨head_cell (w := w7.drew) H7.out rfl, HEN.out _ hb7.drew⟩
            have hE7 : OwnL eK w7 w.heap.size (.slice An es.length cn) es := (HQQ.out.ents.turned_ (Turned.of_grown HG6.out) (fun q hq e => own_two HOF.out HQQ.out.ents (by decide) e hq)).turned_ HT7.out (fun q hq e => own_kind HQQ.out.ents HHD.out (by decide) (e ▸ hq))
            have HE7 := Lib.hid hE7
            have HEO : Hid ((Value.slice An es.length cn).ownBlock ≠ some ob) := own_kind HQQ.out.ents HHD.out (by decide)
            have hob7 : ob < w7.heap.size := (Array.getElem?_eq_some_iff.1 H7.out).1
            have HO7 := Lib.hid hob7
            clear hb6 hb7 hE7 hob7 d16 z16 hw7 y1
            go_wp2
            refine wp_region_m (fun w' => w'.cell? ⟨ob, 2, none⟩ = some (.slice An es.length cn) ∧ w'.cell? ⟨bd, od + k * 2, none⟩ = some (.string x.1)) 16 (by kernel_rfl) ?_
            refine wpAnyM_take (i := 0) (v := ?_) rfl (by kernel_rfl) (by kernel_rfl) (by kernel_rfl) (by kernel_rfl) (fun _ _ _ h => h) s0 (Or.inl ⟨by rfl, (by intro w' hSw; obtain ⟨q0, q2⟩ := hSw; go_simp; first | done | with_reducible rfl)⟩) ?_
            try simp only [Act.put, List.getElem_toArray, List.getElem_cons_zero, List.setIfInBounds_toArray, List.set_cons_zero, List.set_cons_succ]
            refine wpAnyM_take (i := 1) (v := ?_) rfl (by kernel_rfl) (by kernel_rfl) (by kernel_rfl) (by kernel_rfl) (fun _ _ _ h => h) s0 (Or.inl ⟨by rfl, (by intro w' hSw; obtain ⟨q0, q2⟩ := hSw; go_simp; first | done | with_reducible rfl)⟩) ?_
            try simp only [Act.put, List.getElem_toArray, List.getElem_cons_succ, List.getElem_cons_zero, List.setIfInBounds_toArray, List.set_cons_zero, List.set_cons_succ]
            refine wpAnyM_take (i := 2) (v := ?_) rfl (by kernel_rfl) (by kernel_rfl) (by kernel_rfl) (by kernel_rfl) (fun _ _ _ h => h) s0 (Or.inl ⟨by rfl, (by intro w' hSw; obtain ⟨q0, q2⟩ := hSw; go_simp; first | done | with_reducible rfl)⟩) ?_
            try simp only [Act.put, List.getElem_toArray, List.getElem_cons_succ, List.getElem_cons_zero, List.setIfInBounds_toArray, List.set_cons_zero, List.set_cons_succ]
            refine wpAnyM_take (i := 3) (v := ?_) rfl (by kernel_rfl) (by kernel_rfl) (by kernel_rfl) (by kernel_rfl) (fun _ _ _ h => h) s0 (Or.inl ⟨by rfl, (by intro w' hSw; obtain ⟨q0, q2⟩ := hSw; go_simp; first | done | with_reducible rfl)⟩) ?_
            try simp only [Act.put, List.getElem_toArray, List.getElem_cons_succ, List.getElem_cons_zero, List.setIfInBounds_toArray, List.set_cons_zero, List.set_cons_succ]
            refine wpAnyM_take (i := 4) (v := ?_) rfl (by kernel_rfl) (by kernel_rfl) (by kernel_rfl) (by kernel_rfl) (fun _ _ _ h => h) s0 (Or.inl ⟨by rfl, (by intro w' hSw; obtain ⟨q0, q2⟩ := hSw; go_simp; first | done | with_reducible rfl)⟩) ?_
            try simp only [Act.put, List.getElem_toArray, List.getElem_cons_succ, List.getElem_cons_zero, List.setIfInBounds_toArray, List.set_cons_zero, List.set_cons_succ]
            refine wpAnyM_take (i := 5) (v := ?_) rfl (by kernel_rfl) (by kernel_rfl) (by kernel_rfl) (by kernel_rfl) (fun _ _ _ h => h) s0 (Or.inl ⟨by rfl, (by intro w' hSw; obtain ⟨q0, q2⟩ := hSw; go_simp; first | done | with_reducible rfl)⟩) ?_
            try simp only [Act.put, List.getElem_toArray, List.getElem_cons_succ, List.getElem_cons_zero, List.setIfInBounds_toArray, List.set_cons_zero, List.set_cons_succ]
            refine wpAnyM_take (i := 6) (v := ?_) rfl (by kernel_rfl) (by kernel_rfl) (by kernel_rfl) (by kernel_rfl) (fun _ _ _ h => h) s0 (Or.inl ⟨by rfl, (by intro w' hSw; obtain ⟨q0, q2⟩ := hSw; go_simp; first | done | with_reducible rfl)⟩) ?_
            try simp only [Act.put, List.getElem_toArray, List.getElem_cons_succ, List.getElem_cons_zero, List.setIfInBounds_toArray, List.set_cons_zero, List.set_cons_succ]
            refine wpAnyM_take (i := 7) (v := ?_) rfl (by kernel_rfl) (by kernel_rfl) (by kernel_rfl) (by kernel_rfl) (fun _ _ _ h => h) s0 (Or.inl ⟨by rfl, (by intro w' hSw; obtain ⟨q0, q2⟩ := hSw; go_simp; first | done | with_reducible rfl)⟩) ?_
            try simp only [Act.put, List.getElem_toArray, List.getElem_cons_succ, List.getElem_cons_zero, List.setIfInBounds_toArray, List.set_cons_zero, List.set_cons_succ]
            refine wpAnyM_take (i := 8) (v := ?_) rfl (by kernel_rfl) (by kernel_rfl) (by kernel_rfl) (by kernel_rfl) (fun _ _ _ h => h) s0 (Or.inl ⟨by rfl, (by intro w' hSw; obtain ⟨q0, q2⟩ := hSw; go_simp; first | done | with_reducible rfl)⟩) ?_
            try simp only [Act.put, List.getElem_toArray, List.getElem_cons_succ, List.getElem_cons_zero, List.setIfInBounds_toArray, List.set_cons_zero, List.set_cons_succ]
            refine wpAnyM_take (i := 9) (v := ?_) rfl (by kernel_rfl) (by kernel_rfl) (by kernel_rfl) (by kernel_rfl) (fun _ _ _ h => h) s0 (Or.inl ⟨by rfl, (by intro w' hSw; obtain ⟨q0, q2⟩ := hSw; go_simp; first | done | with_reducible rfl)⟩) ?_
            try simp only [Act.put, List.getElem_toArray, List.getElem_cons_succ, List.getElem_cons_zero, List.setIfInBounds_toArray, List.set_cons_zero, List.set_cons_succ]
            refine wpAnyM_take (i := 10) (v := ?_) rfl (by kernel_rfl) (by kernel_rfl) (by kernel_rfl) (by kernel_rfl) (fun _ _ _ h => h) s0 (Or.inl ⟨by rfl, (by intro w' hSw; obtain ⟨q0, q2⟩ := hSw; go_simp; first | done | with_reducible rfl)⟩) ?_
            try simp only [Act.put, List.getElem_toArray, List.getElem_cons_succ, List.getElem_cons_zero, List.setIfInBounds_toArray, List.set_cons_zero, List.set_cons_succ]
            refine wpAnyM_take (i := 11) (v := ?_) rfl (by kernel_rfl) (by kernel_rfl) (by kernel_rfl) (by kernel_rfl) (fun _ _ _ h => h) s0 (Or.inl ⟨by rfl, (by intro w' hSw; obtain ⟨q0, q2⟩ := hSw; go_simp; first | done | with_reducible rfl)⟩) ?_
            try simp only [Act.put, List.getElem_toArray, List.getElem_cons_succ, List.getElem_cons_zero, List.setIfInBounds_toArray, List.set_cons_zero, List.set_cons_succ]
            refine wpAnyM_next (i := 12) (by kernel_rfl) rfl (fun K hK => ?_)
            go_simp
            have s1 : (w7.drew.alloc (.cells #[.string x.1, .int .i64 (k : Nat)] 98)).cell? ⟨ob, 2, none⟩ = some (.slice An es.length cn) ∧ (w7.drew.alloc (.cells #[.string x.1, .int .i64 (k : Nat)] 98)).cell? ⟨bd, od + k * 2, none⟩ = some (.string x.1) :=
              ⟨(((Below.refl w7.heap.size w7).drew.alloc (Nat.le_refl _) _).cell (p := ⟨ob, 2, none⟩) HO7.out).trans s0.1, HEN.out _ (HB7.out.drew.alloc HB7.out.size _)⟩
            refine hK.out _ _ (.inr s1) ?_
            clear hK K
            try simp only [Act.put, List.getElem_toArray, List.getElem_cons_succ, List.getElem_cons_zero, List.setIfInBounds_toArray, List.set_cons_zero, List.set_cons_succ]
            refine wpAnyM_next (i := 13) (by kernel_rfl) rfl (fun K hK => ?_)
            refine step_push_m w7.drew eK rfl _ _ rfl w.heap.size (.slice An es.length cn) rfl es HE7.out.drew_ rfl (x.1, k) ⟨HXO.out.1, by show k < 2199023255552; omega⟩ _ rfl _ rfl (by show (_ + 1) * 24 ≤ _; omega) (by simp only [maxLen]; omega) HB7.out.drew.size ?_
            intro A9 c9 w9 hA9 hG9 hM9
            have T9 : Turned (fun k => (Value.slice An es.length cn).ownBlock = some k) w7 w9 := (Turned.refl _ w7).drew.trans (Turned.of_grown hG9) (fun _ _ h => h)
            have h9 : w9.heap[ob]? = some (.cells (headC (Sf.new t.room) (.slice A6 (rq.length + 1) c6) (.slice An es.length cn) (.slice none 0 0) (.slice none 0 0)) 53 (0, 0)) := (T9.block ob HO7.out HEO.out).trans H7.out
            have hb9 : Below w.heap.size w w9 := HB7.out.trans (T9.below HB7.out.size (fun q hq => (HE7.out.lt_ q hq).1))
            have s2 : w9.cell? ⟨ob, 2, none⟩ = some (.slice An es.length cn) ∧ w9.cell? ⟨bd, od + k * 2, none⟩ = some (.string x.1) := ⟨head_cell h9 rfl, HEN.out _ hb9⟩
            refine hK.out _ _ (.inr s2) ?_
            clear hK K s1 s0
            try simp only [Act.put, List.getElem_toArray, List.getElem_cons_succ, List.getElem_cons_zero, List.setIfInBounds_toArray, List.set_cons_zero, List.set_cons_succ]
            refine wpAnyM_next (i := 14) (by kernel_rfl) rfl (fun K hK => ?_)
            go_simp
            refine hK.out _ _ (.inr s2) ?_
            clear hK K
            try simp only [Act.put, List.getElem_toArray, List.getElem_cons_succ, List.getElem_cons_zero, List.setIfInBounds_toArray, List.set_cons_zero, List.set_cons_succ]
            refine wpAnyM_next (i := 15) (by kernel_rfl) rfl (fun K hK => ?_)
            go_simp
            refine hK.out _ _ (.inr s2) ?_
            clear hK K
            try simp only [Act.put, List.getElem_toArray, List.getElem_cons_succ, List.getElem_cons_zero, List.setIfInBounds_toArray, List.set_cons_zero, List.set_cons_succ]
            have z9 : w9.frozen? ⟨ob, 2, none⟩ = false := frozen_of_row w9 ob 2 _ _ h9
            have y9 := s2.1
            have hz := head_set h9 2 (.slice A9 (es.length + 1) c9) (C' := headC (Sf.new t.room) (.slice A6 (rq.length + 1) c6) (.slice A9 (es.length + 1) c9) (.slice none 0 0) (.slice none 0 0)) rfl
            have Tz := Turned.setCell (F := fun k => k = ob) (Turned.refl (fun k => k = ob) w9) (p := ⟨ob, 2, none⟩) (fun _ => rfl) (.slice A9 (es.length + 1) c9)
            obtain ⟨wz, hwz⟩ : ∃ wz, w9.setCell ⟨ob, 2, none⟩ (.slice A9 (es.length + 1) c9) = wz := ⟨_, rfl⟩
            rw [hwz] at hz Tz
            refine wpAnyM_next (i := 16) (by kernel_rfl) rfl (fun K hK => ?_)
            go_simp
            refine hK.out _ _ (.inl (Nat.le_refl _)) ?_
            clear hK K
            try simp only [Act.put, List.getElem_toArray, List.getElem_cons_succ, List.getElem_cons_zero, List.setIfInBounds_toArray, List.set_cons_zero, List.set_cons_succ]
            refine wpAnyM_done (by kernel_rfl) ?_ _
            have HQZ := Lib.hid (HQQ.out.file (sl := ⟨A5, b4.length, c5⟩) HOO.out HA6.out HG6.out HT7.out H7.out H6.out hA9 T9 Tz hz)
            have HBZ := Lib.hid (hb9.trans (Tz.below hb9.size (fun q hq => hq ▸ HOB.out)))
            have HKS : Hid (Sf.kept t (dir.take (k + 1)) (l.drop 1) = bs ++ [b4]) := by unfold Hid; rw [HTK.out, Sf.kept_snoc, HRS.out, HFX.out, HKP.out, HBS2.out]
            have HRS2 : Hid (Sf.rest t (dir.take (k + 1)) (l.drop 1) = l.drop a2) := by unfold Hid; rw [HTK.out, Sf.rest_snoc, HRS.out, HFX.out, HKP.out]
            have HNS : Hid (Sf.numbered (dir.take (k + 1)) = es ++ [(x.1, k)]) := by unfold Hid; rw [HTK.out, Sf.numbered_snoc, HES2.out, List.length_take, Nat.min_eq_left (by omega)]
            clear s2 z9 y9 h9 hz Tz T9 hA9 hG9 hM9 hb9 hwz
            go_wp2
            go_roundw
            case rel => exact ⟨k + 1, a2, _, _, _, by omega, by go_num, ha2, HRS2.out, by rw [HKS.out, HNS.out]; exact HQZ.out, HBZ.out⟩
            case measure => simp [intOf]; omega
      · have hki : ¬ (k : Int) < (dir.length : Int) := by omega
        have hkk : dir.take k = dir := List.take_of_length_le (by omega)
        rw [hkk] at HQ HRS
        clear hkk
        obtain ⟨An, cn, en, _⟩ := HQ.out.ents.form_
        rw [Sf.numbered_len] at en
        subst en
        have hh7 := HQ.out.head
        have y2 : wr.cell? ⟨ob, 2, none⟩ = some (.slice An dir.length cn) := head_cell hh7 rfl
        have y4 : wr.cell? ⟨ob, 4, none⟩ = some (.slice none 0 0) := head_cell hh7 rfl
        have z4 : wr.frozen? ⟨ob, 4, none⟩ = false := frozen_of_row wr ob 4 _ _ hh7
        have h7 := head_set hh7 4 (.slice An dir.length cn) (C' := headC (Sf.new t.room) vq (.slice An dir.length cn) (.slice none 0 0) (.slice An dir.length cn)) rfl
        have T7 := Turned.setCell (F := fun k => k = ob) (Turned.refl (fun k => k = ob) wr) (p := ⟨ob, 4, none⟩) (fun _ => rfl) (.slice An dir.length cn)
        obtain ⟨w7, hw7⟩ : ∃ w7, wr.setCell ⟨ob, 4, none⟩ (.slice An dir.length cn) = w7 := ⟨_, rfl⟩
        rw [hw7] at h7 T7
        have HQQ : FailIn wr w.heap.size ob w.heap.size (.slice Av l.length cv) t.room a vq (.slice An dir.length cn) rq (Sf.kept t (Sf.dirOf t l) (l.drop 1)) (Sf.numbered (Sf.dirOf t l)) := by rw [HDO.out]; exact HQ.out
        have HE := Lib.hid (HQQ.end_ HH.out.good.room (by rw [HDO.out]; exact HD64.out) (fun i bb hi => by
          rw [HDO.out] at hi
          have hid : i < dir.length := by have := (List.getElem?_eq_some_iff.1 hi).1; rw [Sf.kept_len] at this; exact this
          obtain ⟨l', hl'⟩ := Sf.kept_at t dir (l.drop 1) i _ (List.getElem?_eq_getElem hid)
          rw [hl'] at hi
          injection hi with hi
          rw [← hi]
          obtain ⟨_, _, _, _, _, _, _, hfo, _⟩ := HH.out.bytes_at (HDL.out _ (List.getElem_mem hid))
          exact Sf.kept1_len hfo l') T7 h7)
        have HBF := Lib.hid (HBr.out.trans (T7.below HBr.out.size (fun k hk => hk ▸ HOB.out)))
        clear HQQ hh7 h7 T7 HQ HRS
        go_wp2
        go_ret
        exact ⟨ob, rfl, _, ⟨_, _, _, _, _, _, HE.out⟩, fun k hk => hk.elim (fun h => h.1) (fun h => h.1), HBF.out⟩
end
end Go.Proofs.YtmcbjcbnckpfkaaGreat
namespace Go.Proofs.YtmcbjcbnckpfkaaGreat
open Go.RowKit
set_option linter.unusedVariables false
section
variable {w : World} {f : Fp} {t : Sf.St} {b : Nat}
set_option maxHeartbeats 4000000 in
set_option maxRecDepth 100000 in
theorem rread_disk (h : RDiskM w f t b) (s : ByteArray) (a n : Int) (ha : I64 a) (hn : I64 n) : Calls Tryz.prog 50 #[.pointer (some ⟨b, 0, none⟩), .string s, .int .i64 a, .int .i64 n] w (IsLE yK (Sf.read t s a n) w) := by
  obtain ⟨vf, vs, vr, vu, rf, rr, h⟩ := h
  have CG := Lib.hid (rget_head w t b vf vs vr vu h.head w.heap.size h.body.seen.lv s)
  have d1 : w.cell? ⟨b, 1, none⟩ = some vf := h.cell rfl
  obtain ⟨k, er, hge⟩ : ∃ k er, Sf.get t s = (k, er) := ⟨_, _, rfl⟩
  by_cases he : er = 0
  · have hq : ((er : Int) == 0) = true := by rw [beq_iff_eq]; omega
    have hk := get_lt h.good (by rw [hge, he])
    obtain ⟨g, off, c, x, rfl, hsl, hg, _, c0, c1, hF⟩ := h.file_at hk
    have C := Lib.hid (rnow_file w g (off + k * 2) w.heap.size x (Sf.fileAt t k) hg c0 c1 hF.read (Nat.le_refl _) hF.ok)
    have hlen : (Sf.now (Sf.fileAt t k)).length ≤ 1048576 := by rw [← Sf.bytes_all]; exact hF.ok.len _ (Nat.le_refl _)
    have HE : Hid (Sf.read t s a n = if a < 0 ∨ ((Sf.now (Sf.fileAt t k)).length : Int) < a ∨ n < 0 then ([], 2) else (((Sf.now (Sf.fileAt t k)).drop a.toNat).take n.toNat, 0)) := by
      unfold Hid Sf.read Sf.len
      rw [hge]
      simp [he]
    rw [hge] at CG
    have hki : (k : Int) < (t.files.length : Int) := by omega
    have hk0 : ¬ (k : Int) < 0 := by omega
    have hk1 : (0 : Int) ≤ (k : Int) := by omega
    generalize Sf.now (Sf.fileAt t k) = y at C hlen HE
    clear h hge he hF c0 c1
    unfold I64 at ha hn
    by_cases a0 : a < 0
    · go_enter Tryz.func50, Tryz.ntmps50
      go_wp2_with fail
      refine CG.out.mono ?_
      rintro e1 w1 ⟨rfl, rfl⟩
      clear CG
      go_wp2_with fail
      refine C.out.mono ?_
      rintro e2 w2 ⟨A1, c1, rfl, ho1, hb1⟩
      have HB1 := Lib.hid hb1
      clear C ho1 hb1
      go_wp2
      go_ret2
      rw [HE.out, if_pos (.inl a0)]
      exact ⟨none, 0, rfl, OwnL.nil_ _ _ _, HB1.out⟩
    by_cases aL : (y.length : Int) < a
    · go_enter Tryz.func50, Tryz.ntmps50
      go_wp2_with fail
      refine CG.out.mono ?_
      rintro e1 w1 ⟨rfl, rfl⟩
      clear CG
      go_wp2_with fail
      refine C.out.mono ?_
      rintro e2 w2 ⟨A1, c1, rfl, ho1, hb1⟩
      have HB1 := Lib.hid hb1
      clear C ho1 hb1
      go_wp2
      go_ret2
      rw [HE.out, if_pos (.inr (.inl aL))]
      exact ⟨none, 0, rfl, OwnL.nil_ _ _ _, HB1.out⟩
    by_cases n0 : n < 0
    · go_enter Tryz.func50, Tryz.ntmps50
      go_wp2_with fail
      refine CG.out.mono ?_
      rintro e1 w1 ⟨rfl, rfl⟩
      clear CG
      go_wp2_with fail
      refine C.out.mono ?_
      rintro e2 w2 ⟨A1, c1, rfl, ho1, hb1⟩
      have HB1 := Lib.hid hb1
      clear C ho1 hb1
      go_wp2
      go_ret2
      rw [HE.out, if_pos (.inr (.inr n0))]
      exact ⟨none, 0, rfl, OwnL.nil_ _ _ _, HB1.out⟩
    rw [if_neg (by omega)] at HE
    obtain ⟨p, rfl⟩ := Int.eq_ofNat_of_zero_le (show (0 : Int) ≤ a by omega)
    obtain ⟨q, rfl⟩ := Int.eq_ofNat_of_zero_le (show (0 : Int) ≤ n by omega)
    have hp : p ≤ y.length := by omega
    obtain ⟨m, hm⟩ : ∃ m : Nat, m = min q (y.length - p) := ⟨_, rfl⟩
    have wsub : IntKind.i64.wrap ((y.length : Int) - (p : Int)) = (y.length : Int) - (p : Int) := by rw [IntKind.wrap_i64]; omega
    have wsum : IntKind.i64.wrap ((p : Int) + (m : Int)) = (p : Int) + (m : Int) := by rw [IntKind.wrap_i64]; omega
    have hmin : (if (y.length : Int) - (p : Int) < (q : Int) then (y.length : Int) - (p : Int) else (q : Int)) = (m : Int) := by split <;> omega
    have hmin2 : min (q : Int) ((y.length : Int) - (p : Int)) = (m : Int) := by omega
    have hmin3 : min ((y.length : Int) - (p : Int)) (q : Int) = (m : Int) := by omega
    have nsum : ((p + m : Nat) : Int) = (p : Int) + (m : Int) := by omega
    have HR : Hid (Sf.read t s (p : Int) (q : Int) = ((y.drop p).take m, 0)) := by
      unfold Hid
      rw [HE.out]
      simp only [Int.toNat_natCast]
      rw [List.take_eq_take_iff.2 (show min q (y.drop p).length = min m (y.drop p).length by rw [List.length_drop]; omega)]
    have hml : m ≤ y.length - p := by omega
    have HTL : Hid (((y.drop p).take m).length = m) := by unfold Hid; rw [List.length_take, List.length_drop]; omega
    clear HE hm ha hn
    go_enter Tryz.func50, Tryz.ntmps50
    go_wp2_with fail
    refine CG.out.mono ?_
    rintro e1 w1 ⟨rfl, rfl⟩
    clear CG
    go_wp2_with fail
    refine C.out.mono ?_
    rintro e2 w2 ⟨A1, c1, rfl, ho1, hb1⟩
    obtain ⟨r1, r2, r3⟩ := ho1.form_.len_
    obtain ⟨p1, p2⟩ := cut_lh yK rfl A1 y.length c1 p (p + m) (by omega) (by omega)
    have hT := cut_lv ho1.form_ (lo := p) (hi := p + m) (mx := c1) (by omega) (by omega) (by omega) (Nat.le_refl _)
    rw [show p + m - p = m by omega] at p1 p2 hT
    simp only [nsum] at p1 p2
    change ∀ w, (Instr.slice 33 (.slice A1 y.length c1) (some (.int .i64 (p : Int))) (some (.int .i64 ((p : Int) + (m : Int)))) none).run Tryz.prog w = .ok (.slice (cutAddr A1 p c1 1) m (c1 - p)) w at p1
    change ∀ w, (Instr.sliceAt 33 (.slice A1 y.length c1) (some (.int .i64 (p : Int))) (some (.int .i64 ((p : Int) + (m : Int)))) none).run Tryz.prog w = .ok (.slice (cutAddr A1 p c1 1) m (c1 - p)) w at p2
    change Lv yK w2 w2.heap.size (.slice (cutAddr A1 p c1 1) m (c1 - p)) ((y.drop p).take m) at hT
    generalize cutAddr A1 p c1 1 = A2 at p1 p2 hT
    generalize c1 - p = c2 at p1 p2 hT
    have HT := Lib.hid hT
    have HB1 := Lib.hid hb1
    have HN : Hid (OwnL yK w2 w2.heap.size (.slice none 0 0) []) := OwnL.nil_ _ _ _
    clear C ho1 hb1 hT r1 r2 r3 nsum
    go_wp2_with (at_builtin; go_must (refine wpList_append_l _ yK rfl _ _ rfl w2.heap.size _ rfl [] HN.out _ rfl w2.heap.size ((y.drop p).take m) HT.out (by rw [HTL.out]; show (0 + m) * 1 ≤ _; omega) (by rw [HTL.out]; simp only [maxLen, List.length_nil]; omega) (Nat.le_refl _) ?_; intro A3 c3 w3 hA hG))
    go_ret2
    rw [HR.out]
    rw [List.nil_append] at hA
    exact ⟨A3, c3, by rw [HTL.out]; rfl, hA.mono_ HB1.out.size, HB1.out.trans (((Below.refl w2.heap.size w2).grown hG (Nat.le_refl _) (by intro k hk; cases hk)).mono HB1.out.size)⟩
  · have hq : ((er : Int) == 0) = false := by rw [beq_eq_false_iff_ne]; omega
    have HE : Hid (Sf.read t s a n = ([], er)) := by
      unfold Hid Sf.read
      rw [hge]
      simp [he]
    rw [hge] at CG
    clear h hge he
    go_enter Tryz.func50, Tryz.ntmps50
    go_wp2_with fail
    refine CG.out.mono ?_
    rintro e1 w1 ⟨rfl, rfl⟩
    clear CG
    go_wp2
    go_ret2
    rw [HE.out]
    exact ⟨none, 0, rfl, OwnL.nil_ _ _ _, Below.refl _ _⟩
end
end Go.Proofs.YtmcbjcbnckpfkaaGreat
namespace Go.Proofs.YtmcbjcbnckpfkaaGreat
open Go.RowKit
set_option linter.unusedVariables false
section
variable {w : World} {f : Fp} {t : Sf.St} {b : Nat}
set_option maxHeartbeats 2000000 in
set_option maxRecDepth 100000 in
theorem rnames_disk (h : RDiskM w f t b) : Calls Tryz.prog 39 #[.pointer (some ⟨b, 0, none⟩)] w (IsL1 sK (Sf.names t) w) := by
  obtain ⟨vf, vs, vr, vu, rf, rr, h⟩ := h
  have hb : b < w.heap.size := h.lt b (.inl h.mine)
  have h4 : w.cell? ⟨b, 4, none⟩ = some vu := h.cell rfl
  have h7 : w.cell? ⟨b, 7, none⟩ = some (.bool t.dead) := h.cell rfl
  have hsn := h.good.seen.1
  have hv := h.body.seen.lv
  clear h
  have H0 := Lib.hid hv
  obtain ⟨A, c, rfl, hc1, hc2, _, _⟩ := hv
  have HC : Hid (∀ w', Below w.heap.size w w' → w'.cell? ⟨b, 4, none⟩ = some (.slice A t.seen.length c) ∧ w'.cell? ⟨b, 7, none⟩ = some (.bool t.dead)) := fun w' hb' => ⟨(hb'.cell (p := ⟨b, 4, none⟩) hb).trans h4, (hb'.cell (p := ⟨b, 7, none⟩) hb).trans h7⟩
  have HN : Hid (OwnL sK w w.heap.size (.slice none 0 0) []) := OwnL.nil_ _ _ _
  have HBe : Hid (Below w.heap.size w w) := Below.refl _ _
  have HNA : Hid (Sf.names t = if t.dead then [] else t.seen.map (·.1)) := rfl
  clear hc1 hc2 h4 h7
  generalize t.seen = d at *
  generalize t.dead = dd at *
  go_enter Tryz.func39, Tryz.ntmps39
  go_wp2
  go_loopw [3, 4] (fun u i wr => ∃ (k : Nat) (y : List ByteArray), k ≤ d.length ∧ i = .int .i64 (k : Nat) ∧ Hid (y = (d.take k).map (·.1)) ∧ Hid (y.length = k) ∧ Hid (dd = true → k = 0) ∧ Hid (OwnL sK wr w.heap.size u y) ∧ Below w.heap.size w wr) (fun _ i _ => d.length - (intOf i).toNat)
  case atStart => exact ⟨0, [], by omega, rfl, rfl, rfl, fun _ => rfl, HN.out, HBe.out⟩
  case round =>
    obtain ⟨k, y, hk, rfl, HE, HL, HD, HO, hbr⟩ := hrel
    have HBr := Lib.hid hbr
    obtain ⟨c4, c7⟩ := HC.out wr hbr
    clear hbr HN HBe
    by_cases hlt : k < d.length
    · have hki : (k : Int) < (d.length : Int) := by omega
      have hk0 : (0 : Int) ≤ (k : Int) := by omega
      have wk : IntKind.i64.wrap ((k : Int) + 1) = (k : Int) + 1 := by rw [IntKind.wrap_i64]; omega
      cases dd with
      | true =>
        have HE2 : Hid (Sf.names t = y) := by
          unfold Hid
          rw [HNA.out, HE.out, HD.out rfl]
          rfl
        obtain ⟨A2, c2, e2, _⟩ := HO.out.form_
        subst e2
        clear HE HNA HD
        go_wp2
        go_ret
        rw [HE2.out]
        exact ⟨A2, c2, rfl, HO.out, HBr.out⟩
      | false =>
        have H1 := H0.out.below_ HBr.out (Nat.le_refl _)
        obtain ⟨g, off, x, rfl, hg, hx, hq, e0, e1⟩ := H1.ent_ hlt
        have HX : Hid (sK.ok x.1) := hx.1
        have HE2 : Hid (y ++ [x.1] = (d.take (k + 1)).map (·.1)) := by
          unfold Hid
          rw [HE.out, List.take_add_one, hq, List.map_append]
          rfl
        have HL1 : Hid (y.length ≤ 64) := by have := HL.out; unfold Hid; omega
        clear hq hx HE H1 e1
        go_wp2_with (at_builtin; go_must (refine wpList_push_l _ sK rfl _ _ rfl w.heap.size _ rfl y HO.out rfl x.1 HX.out _ rfl _ rfl (by have := HL1.out; show _ * 16 ≤ _; omega) (by have := HL1.out; simp only [maxLen]; omega) HBr.out.size ?_; intro A3 c3 w5 hA hG))
        go_roundw
        case rel => exact ⟨k + 1, y ++ [x.1], by omega, by go_num, HE2, by have := HL.out; unfold Hid; rw [List.length_append]; simp; omega, fun hh => (by cases hh), hA, HBr.out.grown hG HBr.out.size (fun k hk => (HO.out.lt_ k hk).1)⟩
        case measure => simp [intOf]; omega
    · have hki : ¬ (k : Int) < (d.length : Int) := by omega
      have HE2 : Hid (Sf.names t = y) := by
        have hh := HE.out
        rw [List.take_of_length_le (by omega)] at hh
        unfold Hid
        rw [HNA.out, hh]
        cases dd with
        | true =>
          have := HD.out rfl
          have e : d = [] := List.length_eq_zero_iff.1 (by omega)
          rw [e]; rfl
        | false => rfl
      obtain ⟨A2, c2, e2, _⟩ := HO.out.form_
      subst e2
      clear HE HNA HD
      go_wp2
      go_ret
      rw [HE2.out]
      exact ⟨A2, c2, rfl, HO.out, HBr.out⟩
end
end Go.Proofs.YtmcbjcbnckpfkaaGreat
