/- Parts of the proof. -/
import Derived.Test.YtiafeniflkikeaaGreatPm41
import Derived.Test.YtiafeniflkikeaaGreatPm11
import Derived.Test.YtiafeniflkikeaaGreatPm10
import Derived.Test.YtiafeniflkikeaaGreatPm15
import Derived.Deep.Cut
import Derived.Deep.QuietTactic
import Derived.Test.YtiafeniflkikeaaGreatPm07
import Derived.BigQuiet
namespace Go.Proofs.YtiafeniflkikeaaGreat
open Go.RowKit
set_option linter.unusedVariables false
namespace Pa
def dropTo (l : List Page) (i : Nat) (x : Page) (k : Nat) : List Page := if i < k then dropL (l.take k) i x else l.take k
theorem dropTo_zero (l : List Page) (i : Nat) (x : Page) : dropTo l i x 0 = [] := by simp [dropTo]
theorem dropTo_other {l : List Page} {i k : Nat} {x q : Page} (hq : l[k]? = some q) (h : k ≠ i) : dropTo l i x (k + 1) = dropTo l i x k ++ [q] := by
 have hk := (List.getElem?_eq_some_iff.1 hq).1
 have e := take_snoc hq
 unfold dropTo
 by_cases h1 : i < k
 ·rw [if_pos (by omega), if_pos h1, e]
  have hl : (l.take k).length = k := by rw [List.length_take]; omega
  unfold dropL
  split
  ·rw [List.take_append_of_le_length (by omega), List.drop_append_of_le_length (by omega), List.append_assoc]
  ·rw [List.set_append_left _ _ (by omega)]
 ·rw [if_neg (by omega), if_neg h1, e]
theorem dropTo_gone {l : List Page} {i : Nat} {x : Page} (hq : l[i]? = some x) (h : x.state = 2) : dropTo l i x (i + 1) = dropTo l i x i := by
 have hk := (List.getElem?_eq_some_iff.1 hq).1
 unfold dropTo
 rw [if_pos (by omega), if_neg (by omega)]
 unfold dropL
 rw [if_pos h, List.take_take, Nat.min_eq_left (by omega), List.drop_of_length_le (by rw [List.length_take]; omega), List.append_nil]
theorem dropTo_set {l : List Page} {i : Nat} {x : Page} (hq : l[i]? = some x) (h : x.state ≠ 2) : dropTo l i x (i + 1) = dropTo l i x i ++ [{ x with state := 3 }] := by
 have hk := (List.getElem?_eq_some_iff.1 hq).1
 have e := take_snoc hq
 unfold dropTo
 rw [if_pos (by omega), if_neg (by omega)]
 unfold dropL
 have hl : (l.take i).length = i := by rw [List.length_take]; omega
 rw [if_neg h, e, List.set_append_right _ _ (by omega), hl, Nat.sub_self, List.set_cons_zero]
theorem dropTo_all {l : List Page} {i : Nat} (x : Page) (h : i < l.length) : dropTo l i x l.length = dropL l i x := by
 unfold dropTo; rw [if_pos h, List.take_length]
theorem dropTo_le {l : List Page} {i : Nat} {x : Page} (k : Nat) : (dropTo l i x k).length ≤ l.length := by
 unfold dropTo dropL
 split
 ·split
  ·simp only [List.length_append, List.length_take, List.length_drop]; omega
  ·simp only [List.length_set, List.length_take]; omega
 ·simp only [List.length_take]; omega
end Pa
theorem results_pa {fn : Func} {p u1 : Tmp} (h : fn.results = #[.cell p 37, .tmp u1]) (tmps : Array Value) (w : World) (g : Nat) (c : Array Value) (x : Value) (t : TypeId)
  (hp : tmps.getD p undef = .pointer (some ⟨g, 0, none⟩)) (hx : tmps.getD u1 undef = x) (hc : (Tryz.prog.info? 37).map (·.size) = some c.size) (hg : w.heap[g]? = some (.cells c t (0, 0))) :
  (results fn tmps).run Tryz.prog w = .ok (.tuple #[.agg c, x]) w := by
 have hp' : tmps[p]?.getD undef = .pointer (some ⟨g, 0, none⟩) := by simpa using hp
 have hx' : tmps[u1]?.getD undef = x := by simpa using hx
 simp [results, h, hp', hx', asAddr, run_loadVar_row w g t _ _ (0, 0) _ hg Tryz.underlying37 rfl hc]
theorem pgs_old {w w' : World} {R : Nat → Prop} {A : Option Addr} {n c : Nat} {l : List Pa.Page} (h : Pgs w R (.slice A n c) l) (hT : Turned (fun k => w.heap.size ≤ k) w w') (hR : ∀ k, R k → k < w.heap.size) : Pgs w' (RX R w w') (.slice A n c) l :=
 (h.turned_ hT (fun k hk hf => by have := hR k hk; omega)).more_ (fun k hk => .inl hk)
set_option maxHeartbeats 1500000 in
set_option maxRecDepth 100000 in
theorem rpadrop_any (R : Nat → Prop) (v : Value) (m : Pa.M) (n : Int) (w : World) (h : PaIs w R v m) (hR : ∀ k, R k → k < w.heap.size) (hl : m.l.length ≤ 1000000) :
    Calls Tryz.prog 23 #[v, .int .i64 n] w (IsPaE R (Pa.drop m n) w) := by
  have hz := (zero_of_info pa_zero).1
  have HV := Lib.hid h
  obtain ⟨A, c, rfl, hf, hs, hp⟩ := h
  have hcs := paC_size m.root A m.l.length c m.size
  have hsz := pa_size
  rw [← hcs] at hsz
  have hco := paC_one m.root A m.l.length c m.size
  obtain ⟨Z, hZ⟩ : ∃ Z, none9 = Z := ⟨_, rfl⟩
  have hzs : Z.size = 9 := by rw [← hZ]; rfl
  rw [hZ] at hz
  obtain ⟨D, hD⟩ : ∃ D, paC m.root A m.l.length c m.size = D := ⟨_, rfl⟩
  have hzc : Z.size = D.size := by rw [hzs, ← hD, paC_size]
  obtain ⟨W, hW⟩ : ∃ W, (w.alloc (.cells D 37)).alloc (.cells Z 37) = W := ⟨_, rfl⟩
  have HAT : Hid (Rw W w.heap.size 37 (paC m.root A m.l.length c m.size)) := by unfold Hid; rw [← hW, hD]; exact (Rw.new w _ _).old _
  have HDT : Hid (Rw W w.heap.size 37 D) := by unfold Hid; rw [← hD]; exact HAT.out
  have HZT : Hid (Rw W (w.heap.size + 1) 37 Z) := by unfold Hid; rw [← hW]; exact Rw.at_ (by simp) _ _
  have hb : Below w.heap.size w W := by rw [← hW]; exact ((Below.refl _ _).alloc (Nat.le_refl _) _).alloc (by simp) _
  have hWs : W.heap.size = w.heap.size + 2 := by rw [← hW]; simp
  have HWS := Lib.hid hWs
  have HB := Lib.hid hb
  have HP0 := Lib.hid hp
  have HP := Lib.hid (hp.below_ hb)
  have HL := Lib.hid hl
  have HF : Hid (Rt.Fit m.root ∧ m.size < 1099511627776) := ⟨hf, hs⟩
  have HZS := Lib.hid hzs
  have hz4 := (zero_of_info pg_zero).1
  have HCA := Lib.hid (rpaat_any R _ m n W (HV.out.below_ hb) (by omega))
  rw [hD] at HCA hsz hco ⊢
  have HDD := Lib.hid hD
  have HRL := Lib.hid hR
  have HSD := Lib.hid hsz
  have HOD := Lib.hid hco
  have HZC := Lib.hid hzc
  have HI : Hid (Pa.atI m.l n = match Pa.idx m.l n with | some i => (i : Int) | none => -1) := rfl
  have HDR : Hid (Pa.drop m n = match Pa.idx m.l n with | none => (m, 7) | some i => match m.l[i]? with | none => (m, 7) | some x => if x.state = 3 then (m, 7) else ({ m with l := Pa.dropL m.l i x }, 0)) := rfl
  -- the answer, where nothing is done
  have HNO : Hid (∀ (wr : World) (tmps : Array Value) (r : Pa.M × Nat), r = (m, 7) → Below W.heap.size W wr → tmps.getD 4 undef = .pointer (some ⟨w.heap.size + 1, 0, none⟩) → tmps.getD 5 undef = .int .i64 7 →
      bodyPost Tryz.prog Tryz.f23 (IsPaE R r w) Exit.ret ⟨tmps, []⟩ (wr.setRow (w.heap.size + 1) D)) := fun wr tmps r hr hbr h4 h5 => by
    subst hr
    have hw1 : w.heap.size + 1 < W.heap.size := by have := HWS.out; omega
    have hzr := HZT.out.below hbr hw1
    have hT : Turned (fun k => w.heap.size ≤ k) w (wr.setRow (w.heap.size + 1) D) := Turned.of_below (below_setRow (HB.out.trans (hbr.mono HB.out.size)) (by omega) _)
    refine bodyPost_ret (v := .tuple #[.agg D, .int .i64 7]) (results_pa rfl _ _ (w.heap.size + 1) D _ _ h4 h5 HSD.out (Rw.row hzr D)) rfl ⟨_, rfl, ⟨A, c, by rw [← HDD.out], HF.out.1, HF.out.2, pgs_old HP0.out hT HRL.out⟩, below_setRow (HB.out.trans (hbr.mono HB.out.size)) (by omega) _⟩
  clear hb hp hD hf hs hl hWs hZ hzs hsz hco hzc hcs hR HV
  cases hi : Pa.idx m.l n with
  | none =>
    have HE : Hid (Pa.drop m n = (m, 7)) := by unfold Hid; rw [HDR.out, hi]
    have hx : Pa.atI m.l n = -1 := by rw [HI.out, hi]
    rw [hx] at HCA
    clear hx hi HI HDR
    go_enter Tryz.func23, Tryz.ntmps23
    go_wp2_with ((with_reducible refine gate_load 37 ?_); refine wpList_load_row rfl 37 _ rfl w.heap.size rfl 37 D (0, 0) _ HDT.out Tryz.underlying37 rfl HSD.out ?_)
    refine HCA.out.mono ?_
    rintro e w2 ⟨rfl, b2⟩
    have HB2 := Lib.hid b2
    have hw0 : w.heap.size < W.heap.size := by have := HWS.out; omega
    have HD2 : Hid (Rw w2 w.heap.size 37 D) := HDT.out.below b2 hw0
    have HZ2 : Hid (Rw w2 (w.heap.size + 1) 37 Z) := HZT.out.below b2 (by have := HWS.out; omega)
    clear b2 HCA hw0
    go_wp2_with (first
      | ((with_reducible refine gate_load 37 ?_); refine wpList_load_row rfl 37 _ rfl w.heap.size rfl 37 D (0, 0) _ HD2.out Tryz.underlying37 rfl HSD.out ?_)
      | ((with_reducible refine gate_store 37 ?_); refine wpList_store_row rfl 37 _ _ rfl (w.heap.size + 1) D rfl rfl 37 _ HZ2.out HSD.out HZC.out HOD.out ?_))
    exact HNO.out w2 _ _ HE.out HB2.out rfl rfl
  | some i =>
    have hx : Pa.atI m.l n = (i : Int) := by rw [HI.out, hi]
    rw [hx] at HCA
    obtain ⟨q0, hq0, hn⟩ := Pa.idx_lt hi
    have hlt : i < m.l.length := (List.getElem?_eq_some_iff.1 hq0).1
    have HDE : Hid (Pa.drop m n = if q0.state = 3 then (m, 7) else ({ m with l := Pa.dropL m.l i q0 }, 0)) := by unfold Hid; rw [HDR.out, hi]; simp only [hq0]
    obtain ⟨b, off, x, q, hA, hbl, hRb, hxo, hq, ho, hm⟩ := HP.out.at_ hlt
    subst hA
    rw [hq0] at hq
    obtain rfl := Option.some.inj hq
    have HM1 : Hid (∀ w', Below W.heap.size W w' → w'.cell? ⟨b, off + i * 4 + 1, none⟩ = some (.int .i64 (x.state : Nat))) := fun w' hb' => (hb'.cell (p := ⟨b, off + i * 4 + 1, none⟩) (by show b < _; omega)).trans (hm 1 _ rfl)
    have hi0 : (0 : Int) ≤ (i : Int) := by omega
    have hi1 : (i : Int) < (m.l.length : Int) := by omega
    have hi2 : m.l.length ≤ 9223372036854775807 := by have := HL.out; omega
    have hng : ¬ (i : Int) < 0 := by omega
    have HST : Hid (q0.state = x.state) := ho.2.1
    have HQ0 := Lib.hid hq0
    have HLT := Lib.hid hlt
    clear hx hi HI HDR hn hm ho hxo hRb hlt hbl hq0 hq
    obtain ⟨xs, hxs⟩ : ∃ xs, x.state = xs := ⟨_, rfl⟩
    rw [hxs] at HST HM1
    clear hxs x
    by_cases h3 : xs = 3
    · have HE : Hid (Pa.drop m n = (m, 7)) := by unfold Hid; rw [HDE.out, if_pos (by rw [HST.out]; exact h3)]
      have b3 : ((xs : Int) == 3) = true := by rw [h3]; rfl
      clear h3 HDE
      go_enter Tryz.func23, Tryz.ntmps23
      go_wp2_with ((with_reducible refine gate_load 37 ?_); refine wpList_load_row rfl 37 _ rfl w.heap.size rfl 37 D (0, 0) _ HDT.out Tryz.underlying37 rfl HSD.out ?_)
      refine HCA.out.mono ?_
      rintro e w2 ⟨rfl, b2⟩
      have HB2 := Lib.hid b2
      have hw0 : w.heap.size < W.heap.size := by have := HWS.out; omega
      have HD2 : Hid (Rw w2 w.heap.size 37 D) := HDT.out.below b2 hw0
      have HZ2 : Hid (Rw w2 (w.heap.size + 1) 37 Z) := HZT.out.below b2 (by have := HWS.out; omega)
      have c7 : w2.cell? ⟨w.heap.size, 7, none⟩ = some (.slice (some ⟨b, off, none⟩) m.l.length c) := (HAT.out.below b2 hw0).cell 7
      have c1 := HM1.out w2 b2
      clear b2 HCA hw0
      go_wp2_with (first
        | ((with_reducible refine gate_load 37 ?_); refine wpList_load_row rfl 37 _ rfl w.heap.size rfl 37 D (0, 0) _ HD2.out Tryz.underlying37 rfl HSD.out ?_)
        | ((with_reducible refine gate_store 37 ?_); refine wpList_store_row rfl 37 _ _ rfl (w.heap.size + 1) D rfl rfl 37 _ HZ2.out HSD.out HZC.out HOD.out ?_))
      exact HNO.out w2 _ _ HE.out HB2.out rfl rfl
    · have HE : Hid (Pa.drop m n = ({ m with l := Pa.dropL m.l i q0 }, 0)) := by unfold Hid; rw [HDE.out, if_neg (by rw [HST.out]; exact h3)]
      have b3 : ((xs : Int) == 3) = false := by rw [beq_eq_false_iff_ne]; omega
      clear HDE HNO
      go_enter Tryz.func23, Tryz.ntmps23
      go_wp2_with ((with_reducible refine gate_load 37 ?_); refine wpList_load_row rfl 37 _ rfl w.heap.size rfl 37 D (0, 0) _ HDT.out Tryz.underlying37 rfl HSD.out ?_)
      refine HCA.out.mono ?_
      rintro e w2 ⟨rfl, b2⟩
      have HB2 := Lib.hid b2
      have hw0 : w.heap.size < W.heap.size := by have := HWS.out; omega
      have c7 : w2.cell? ⟨w.heap.size, 7, none⟩ = some (.slice (some ⟨b, off, none⟩) m.l.length c) := (HAT.out.below b2 hw0).cell 7
      have c1 := HM1.out w2 b2
      clear b2 HCA hw0 h3
      go_wp2
      clear c7 c1 b3
      go_loopw [7, 8] (fun v i' wr => ∃ (k : Nat) (A2 : Option Addr) (c2 : Nat) (us : List RawP), k ≤ m.l.length ∧ i' = .int .i64 k ∧ v = .slice A2 us.length c2 ∧ Hid (PgsO wr R us (Pa.dropTo m.l i q0 k)) ∧ Hid (OwnL gK wr W.heap.size (.slice A2 us.length c2) us) ∧ Hid (Below W.heap.size W wr)) (fun _ i' _ => m.l.length - (intOf i').toNat)
      case atStart => exact ⟨0, none, 0, [], by omega, rfl, rfl, by unfold Hid; rw [Pa.dropTo_zero]; exact PgsO.nil_ _ _, OwnL.nil_ _ _ _, HB2.out⟩
      case round =>
        obtain ⟨k, A2, c2, us, hk, rfl, rfl, HU, HO, HBR⟩ := hrel
        clear HB2
        have HSZ : Hid (W.heap.size ≤ wr.heap.size) := HBR.out.size
        have hg0 : w.heap.size < W.heap.size := by have := HWS.out; omega
        have c7 : wr.cell? ⟨w.heap.size, 7, none⟩ = some (.slice (some ⟨b, off, none⟩) m.l.length c) := (HAT.out.below HBR.out hg0).cell 7
        have hPr := HP.out.below_ HBR.out
        by_cases hlt : k < m.l.length
        · obtain ⟨b', off', x, q, hA, hbl, hRb, hxo, hq, ho, hm⟩ := hPr.at_ hlt
          injection hA with hA
          injection hA with hA1 hA2
          subst hA1 hA2
          have HUL : Hid (us.length ≤ 1000000) := by
            have h1 := HU.out.1
            have h2 := Pa.dropTo_le (l := m.l) (i := i) (x := q0) k
            have := HL.out
            unfold Hid; omega
          have HOQ := Lib.hid ho
          have HXO := Lib.hid hxo
          have HQ := Lib.hid hq
          obtain ⟨xn, ys, xk, xA, xm, xc⟩ := x
          have hmm : wr.rangeAt b (off + k * 4) [.int .i64 (xn : Nat), .int .i64 (ys : Nat), .int .u8 (xk : Nat), .slice xA xm xc] := hm
          have HMM := Lib.hid hmm
          obtain ⟨X, hX⟩ : ∃ X, wr.alloc (.cells #[.int .i64 (xn : Nat), .int .i64 (ys : Nat), .int .u8 (xk : Nat), .slice xA xm xc] 99) = X := ⟨_, rfl⟩
          have hXr : Rw X wr.heap.size 99 #[.int .i64 (xn : Nat), .int .i64 (ys : Nat), .int .u8 (xk : Nat), .slice xA xm xc] := by rw [← hX]; exact Rw.new _ _ _
          have hXb : Below wr.heap.size wr X := by rw [← hX]; exact (Below.refl _ _).alloc (Nat.le_refl _) _
          have d1 : X.cell? ⟨wr.heap.size, 1, none⟩ = some (.int .i64 (ys : Nat)) := hXr.cell 1
          have hXs : X.heap.size = wr.heap.size + 1 := by rw [← hX]; simp
          have HXS := Lib.hid hXs
          have HXB := Lib.hid hXb
          have HXR := Lib.hid hXr
          have HYS : Hid (q.state = ys) := ho.2.1
          have HUL2 : Hid ((us.length + 1) * 48 ≤ 140737488355328 ∧ us.length + 1 ≤ maxLen) := by have := HUL.out; unfold Hid maxLen; omega
          clear hm ho hq hPr hbl hRb hxo hmm hXr hXb hXs
          by_cases hki : k = i
          · have hqq : q = q0 := by have h1 := HQ.out; rw [hki, HQ0.out] at h1; exact (Option.some.inj h1).symm
            have bki : ((k : Int) == (i : Int)) = true := by rw [hki]; simp
            have HQI : Hid (m.l[i]? = some q0) := HQ0.out
            by_cases hy2 : ys = 2
            · have HN : Hid (Pa.dropTo m.l i q0 (k + 1) = Pa.dropTo m.l i q0 k) := by unfold Hid; rw [hki]; exact Pa.dropTo_gone HQI.out (by rw [← hqq, HYS.out]; exact hy2)
              have by2 : ((ys : Int) == 2) = true := by rw [hy2]; rfl
              clear hy2 hki hqq
              go_wp2_with (first
                | ((with_reducible refine gate_load 99 ?_); refine wpList_load_mid rfl 99 _ rfl b (off + k * 4) rfl _ _ HMM.out Tryz.underlying99 rfl pg_size ?_)
                | ((with_reducible refine gate_store 99 ?_); refine wpList_store_row rfl 99 _ _ rfl wr.heap.size #[.int .i64 (xn : Nat), .int .i64 (ys : Nat), .int .u8 (xk : Nat), .slice xA xm xc] rfl rfl 99 _ (heap_alloc_new wr _) pg_size rfl rfl ?_
                   rw [World.setRow_alloc_new, hX]))
              go_roundw
              case rel => exact ⟨k + 1, A2, c2, us, by omega, by go_num, rfl, by rw [HN.out]; exact HU.out.below_ HXB.out, HO.out.below_ HXB.out (Nat.le_refl _), HBR.out.trans (HXB.out.mono HSZ.out)⟩
              case measure => simp [intOf]; omega
            · have HN : Hid (Pa.dropTo m.l i q0 (k + 1) = Pa.dropTo m.l i q0 k ++ [{ q with state := 3 }]) := by unfold Hid; rw [hki, hqq]; exact Pa.dropTo_set HQI.out (by rw [← hqq, HYS.out]; exact hy2)
              have by2 : ((ys : Int) == 2) = false := by rw [beq_eq_false_iff_ne]; omega
              have f1 : X.frozen? ⟨wr.heap.size, 1, none⟩ = false := HXR.out.frozen 1
              obtain ⟨X2, hX2⟩ : ∃ X2, X.setCell ⟨wr.heap.size, 1, none⟩ (.int .i64 3) = X2 := ⟨_, rfl⟩
              have HX2R : Hid (Rw X2 wr.heap.size 99 #[.int .i64 (xn : Nat), .int .i64 3, .int .u8 (xk : Nat), .slice xA xm xc]) := by
                unfold Hid; rw [← hX2]; exact HXR.out.set 1 _
              have hX2b : Below wr.heap.size wr X2 := by rw [← hX2]; exact HXB.out.setCell (p := ⟨wr.heap.size, 1, none⟩) (by show wr.heap.size ≤ wr.heap.size; omega) _
              have HX2B := Lib.hid hX2b
              have HX2S : Hid (W.heap.size ≤ X2.heap.size) := Nat.le_trans HSZ.out hX2b.size
              have HO2 := Lib.hid (HO.out.below_ hX2b (Nat.le_refl _))
              have HXN : Hid (RawPOk ⟨xn, 3, xk, xA, xm, xc⟩) := ⟨HXO.out.1, by show 3 < 256; omega, HXO.out.2.2⟩
              clear hy2 hX2b hki hqq
              go_wp2_with (first
                | ((with_reducible refine gate_load 99 ?_); refine wpList_load_mid rfl 99 _ rfl b (off + k * 4) rfl _ _ HMM.out Tryz.underlying99 rfl pg_size ?_)
                | ((with_reducible refine gate_store 99 ?_); refine wpList_store_row rfl 99 _ _ rfl wr.heap.size #[.int .i64 (xn : Nat), .int .i64 (ys : Nat), .int .u8 (xk : Nat), .slice xA xm xc] rfl rfl 99 _ (heap_alloc_new wr _) pg_size rfl rfl ?_
                   rw [World.setRow_alloc_new, hX])
                | ((with_reducible refine gate_load 99 ?_); refine wpList_load_row rfl 99 _ rfl wr.heap.size rfl 99 #[.int .i64 (xn : Nat), .int .i64 3, .int .u8 (xk : Nat), .slice xA xm xc] (0, 0) _ HX2R.out Tryz.underlying99 rfl pg_size ?_)
                | (at_builtin; go_must (refine wpList_push_l _ gK rfl _ _ rfl W.heap.size _ rfl us HO2.out rfl ⟨xn, 3, xk, xA, xm, xc⟩ HXN.out _ rfl _ rfl HUL2.out.1 HUL2.out.2 HX2S.out ?_; intro A6 c6 w6 hA6 hG6)))
              go_roundw
              case rel =>
                have hl1 : (us ++ [(⟨xn, 3, xk, xA, xm, xc⟩ : RawP)]).length = us.length + 1 := by simp
                have hb6 : Below W.heap.size W w6 := (HBR.out.trans (HX2B.out.mono HSZ.out)).grown hG6 HX2S.out (fun k hk => (HO2.out.lt_ k hk).1)
                have hu6 : PgsO w6 R (us ++ [(⟨xn, 3, xk, xA, xm, xc⟩ : RawP)]) (Pa.dropTo m.l i q0 (k + 1)) := by
                  rw [HN.out]
                  have ho1 := HU.out.below_ HX2B.out
                  have hp1 : PgOf X2 R ⟨xn, 3, xk, xA, xm, xc⟩ { q with state := 3 } := ⟨HOQ.out.1, rfl, HOQ.out.2.2.1, (HOQ.out.2.2.2.below_ HX2B.out)⟩
                  exact (ho1.snoc hp1).turned_ (Turned.of_grown hG6) (fun k hk e => by
                    have h1 := (HO2.out.lt_ k e).1
                    have h2 := HRL.out k hk
                    have := HB.out.size
                    omega)
                exact ⟨k + 1, A6, c6, _, by omega, by go_num, by rw [hl1], hu6, by rw [hl1]; exact hA6, hb6⟩
              case measure => simp [intOf]; omega
          · have HN : Hid (Pa.dropTo m.l i q0 (k + 1) = Pa.dropTo m.l i q0 k ++ [q]) := Pa.dropTo_other HQ.out hki
            have bki : ((k : Int) == (i : Int)) = false := by rw [beq_eq_false_iff_ne]; omega
            have HX2S : Hid (W.heap.size ≤ X.heap.size) := Nat.le_trans HSZ.out HXB.out.size
            have HO2 := Lib.hid (HO.out.below_ HXB.out (Nat.le_refl _))
            clear hki
            go_wp2_with (first
              | ((with_reducible refine gate_load 99 ?_); refine wpList_load_mid rfl 99 _ rfl b (off + k * 4) rfl _ _ HMM.out Tryz.underlying99 rfl pg_size ?_)
              | ((with_reducible refine gate_store 99 ?_); refine wpList_store_row rfl 99 _ _ rfl wr.heap.size #[.int .i64 (xn : Nat), .int .i64 (ys : Nat), .int .u8 (xk : Nat), .slice xA xm xc] rfl rfl 99 _ (heap_alloc_new wr _) pg_size rfl rfl ?_
                 rw [World.setRow_alloc_new, hX])
              | ((with_reducible refine gate_load 99 ?_); refine wpList_load_row rfl 99 _ rfl wr.heap.size rfl 99 #[.int .i64 (xn : Nat), .int .i64 (ys : Nat), .int .u8 (xk : Nat), .slice xA xm xc] (0, 0) _ HXR.out Tryz.underlying99 rfl pg_size ?_)
              | (at_builtin; go_must (refine wpList_push_l _ gK rfl _ _ rfl W.heap.size _ rfl us HO2.out rfl ⟨xn, ys, xk, xA, xm, xc⟩ HXO.out _ rfl _ rfl HUL2.out.1 HUL2.out.2 HX2S.out ?_; intro A6 c6 w6 hA6 hG6)))
            go_roundw
            case rel =>
              have hl1 : (us ++ [(⟨xn, ys, xk, xA, xm, xc⟩ : RawP)]).length = us.length + 1 := by simp
              have hb6 : Below W.heap.size W w6 := (HBR.out.trans (HXB.out.mono HSZ.out)).grown hG6 HX2S.out (fun k hk => (HO2.out.lt_ k hk).1)
              have hu6 : PgsO w6 R (us ++ [(⟨xn, ys, xk, xA, xm, xc⟩ : RawP)]) (Pa.dropTo m.l i q0 (k + 1)) := by
                rw [HN.out]
                have ho1 := HU.out.below_ HXB.out
                have hp1 : PgOf X R ⟨xn, ys, xk, xA, xm, xc⟩ q := HOQ.out.below_ HXB.out
                exact (ho1.snoc hp1).turned_ (Turned.of_grown hG6) (fun k hk e => by
                  have h1 := (HO2.out.lt_ k e).1
                  have h2 := HRL.out k hk
                  have := HB.out.size
                  omega)
              exact ⟨k + 1, A6, c6, _, by omega, by go_num, by rw [hl1], hu6, by rw [hl1]; exact hA6, hb6⟩
            case measure => simp [intOf]; omega
        · have h0 : k = m.l.length := by omega
          subst h0
          have hU : PgsO wr R us (Pa.dropL m.l i q0) := by have := HU.out; rwa [Pa.dropTo_all _ HLT.out] at this
          have HU2 := Lib.hid hU
          have hD0 : Rw wr w.heap.size 37 (paC m.root (some ⟨b, off, none⟩) m.l.length c m.size) := HAT.out.below HBR.out hg0
          have hf7 : wr.frozen? ⟨w.heap.size, 7, none⟩ = false := hD0.frozen 7
          obtain ⟨X, hX⟩ : ∃ X, wr.setCell ⟨w.heap.size, 7, none⟩ (.slice A2 us.length c2) = X := ⟨_, rfl⟩
          have hXr : Rw X w.heap.size 37 (paC m.root A2 us.length c2 m.size) := by rw [← hX]; exact hD0.set 7 _
          have hXz : Rw X (w.heap.size + 1) 37 Z := by rw [← hX]; exact (HZT.out.below HBR.out (by have := HWS.out; omega)).setOther (by omega) _ _
          have HXZ := Lib.hid hXz
          have hXT : Turned (fun k => k = w.heap.size) wr X := by rw [← hX]; exact (Turned.refl (fun k => k = w.heap.size) wr).setCell (p := ⟨w.heap.size, 7, none⟩) (fun _ => rfl) _
          have HXT := Lib.hid hXT
          have HXBW : Hid (Below w.heap.size w X) := by unfold Hid; rw [← hX]; exact (HB.out.trans (HBR.out.mono HB.out.size)).setCell (p := ⟨w.heap.size, 7, none⟩) (by show w.heap.size ≤ w.heap.size; omega) _
          have hsz := pa_size
          rw [← paC_size m.root A2 us.length c2 m.size] at hsz
          have hco := paC_one m.root A2 us.length c2 m.size
          have hzc : Z.size = (paC m.root A2 us.length c2 m.size).size := by rw [HZS.out, paC_size]
          obtain ⟨C, hC⟩ : ∃ C, paC m.root A2 us.length c2 m.size = C := ⟨_, rfl⟩
          rw [hC] at hsz hco hzc
          have HXC : Hid (Rw X w.heap.size 37 C) := by unfold Hid; rw [← hC]; exact hXr
          have HCC := Lib.hid hC
          clear hPr hU hD0 hXr hXz hXT hC HU
          go_wp2_with (first
            | ((with_reducible refine gate_load 37 ?_); refine wpList_load_row rfl 37 _ rfl w.heap.size rfl 37 C (0, 0) _ HXC.out Tryz.underlying37 rfl hsz ?_)
            | ((with_reducible refine gate_store 37 ?_); refine wpList_store_row rfl 37 _ _ rfl (w.heap.size + 1) C rfl rfl 37 _ HXZ.out hsz hzc hco ?_))
          have hT2 : Turned (fun k => k = w.heap.size ∨ k = w.heap.size + 1) wr (X.setRow (w.heap.size + 1) C) := (HXT.out.mono (G := fun k => k = w.heap.size ∨ k = w.heap.size + 1) (fun k _ h => Or.inl h)).setRow (fun _ => Or.inr rfl) _
          rw [HE.out]
          refine bodyPost_ret (v := .tuple #[.agg C, .int .i64 0]) (results_pa rfl _ _ (w.heap.size + 1) C _ _ rfl rfl hsz (Rw.row HXZ.out C)) rfl ⟨_, rfl, ⟨A2, c2, ?_, HF.out.1, HF.out.2, ?_⟩, below_setRow HXBW.out (by omega) _⟩
          · rw [← HCC.out, HU2.out.1]
          · exact pgs_ret HO.out HU2.out hT2 (fun k hk => by have := HWS.out; omega) (fun k hk hr => by have := HRL.out k hr; omega) (fun k hk => .inl hk) HB.out.size
end Go.Proofs.YtiafeniflkikeaaGreat
namespace Go.Proofs.YtiafeniflkikeaaGreat
open Go.RowKit
set_option linter.unusedVariables false
theorem gK_el : Tryz.prog.elem gK.s = gK.e := by kernel_rfl
theorem results_pa3 {fn : Func} {p u1 u2 : Tmp} (h : fn.results = #[.cell p 37, .tmp u1, .tmp u2]) (tmps : Array Value) (w : World) (g : Nat) (c : Array Value) (x y : Value) (t : TypeId)
  (hp : tmps.getD p undef = .pointer (some ⟨g, 0, none⟩)) (hx : tmps.getD u1 undef = x) (hy : tmps.getD u2 undef = y) (hc : (Tryz.prog.info? 37).map (·.size) = some c.size) (hg : w.heap[g]? = some (.cells c t (0, 0))) :
  (results fn tmps).run Tryz.prog w = .ok (.tuple #[.agg c, x, y]) w := by
 have hp' : tmps[p]?.getD undef = .pointer (some ⟨g, 0, none⟩) := by simpa using hp
 have hx' : tmps[u1]?.getD undef = x := by simpa using hx
 have hy' : tmps[u2]?.getD undef = y := by simpa using hy
 simp [results, h, hp', hx', hy', asAddr, run_loadVar_row w g t _ _ (0, 0) _ hg Tryz.underlying37 rfl hc]
theorem LvR.low_ {P : Program} {α : Type} {K : El P α} {w : World} {R : Nat → Prop} {v : Value} {l : List α} {B : Nat} (h : LvR K w R v l) (hR : ∀ k, R k → k < B) : Lv K w B v l := by
 obtain ⟨⟨A, c, e, h1, h2, h3, h4, h5⟩, hr⟩ := h
 refine ⟨A, c, e, h1, h2, h3, h4, fun hp => ?_⟩
 obtain ⟨b, off, eA, hb, hc⟩ := h5 hp
 exact ⟨b, off, eA, hR b (hr hp b (by rw [e, eA]; rfl)), hc⟩
set_option maxHeartbeats 1500000 in
set_option maxRecDepth 100000 in
theorem rpaadd_any (R : Nat → Prop) (v : Value) (m : Pa.M) (kd : Nat) (vb : Value) (body : List Nat) (w : World) (h : PaIs w R v m) (hR : ∀ k, R k → k < w.heap.size) (hl : m.l.length ≤ 1000000) (hkd : kd < 256) (hv : Lv yK w w.heap.size vb body) :
  Calls Tryz.prog 20 #[v, .int .u8 (kd : Nat), vb] w (IsPaN R (Pa.add m kd body) w) := by
 have hz := (zero_of_info pa_zero).1
 obtain ⟨A, c, rfl, hf, hs, hp⟩ := h
 have hcs := paC_size m.root A m.l.length c m.size
 have hsz := pa_size
 rw [← hcs] at hsz
 have hco := paC_one m.root A m.l.length c m.size
 obtain ⟨Z, hZ⟩ : ∃ Z, none9 = Z := ⟨_, rfl⟩
 have hzs : Z.size = 9 := by rw [← hZ]; rfl
 rw [hZ] at hz
 obtain ⟨D, hD⟩ : ∃ D, paC m.root A m.l.length c m.size = D := ⟨_, rfl⟩
 have hzc : Z.size = D.size := by rw [hzs, ← hD, paC_size]
 obtain ⟨W, hW⟩ : ∃ W, (w.alloc (.cells D 37)).alloc (.cells Z 37) = W := ⟨_, rfl⟩
 have HAT : Hid (Rw W w.heap.size 37 (paC m.root A m.l.length c m.size)) := by unfold Hid; rw [← hW, hD]; exact (Rw.new w _ _).old _
 have HDT : Hid (Rw W w.heap.size 37 D) := by unfold Hid; rw [← hD]; exact HAT.out
 have HZT : Hid (Rw W (w.heap.size + 1) 37 Z) := by unfold Hid; rw [← hW]; exact Rw.at_ (by simp) _ _
 have hb : Below w.heap.size w W := by rw [← hW]; exact ((Below.refl _ _).alloc (Nat.le_refl _) _).alloc (by simp) _
 have hWs : W.heap.size = w.heap.size + 2 := by rw [← hW]; simp
 have HWS := Lib.hid hWs
 have HB := Lib.hid hb
 have HP0 := Lib.hid hp
 have HP := Lib.hid (hp.below_ hb)
 have HL := Lib.hid hl
 have HF : Hid (Rt.Fit m.root ∧ m.size < 1099511627776) := ⟨hf, hs⟩
 have HZS := Lib.hid hzs
 rw [hD] at hsz hco ⊢
 have HDD := Lib.hid hD
 have HRL := Lib.hid hR
 have HSD := Lib.hid hsz
 have HOD := Lib.hid hco
 have HZC := Lib.hid hzc
 have HKD := Lib.hid hkd
 have HVB := Lib.hid (hv.below_ hb (Nat.le_refl _))
 obtain ⟨Ab, cb, rfl, v1, v2, -⟩ := hv
 have hbl : body.length ≤ 9223372036854775807 := by simp only [maxLen] at v2; omega
 -- the answer, where nothing is done
 have HNO : Hid (∀ (wr : World) (tmps : Array Value) (r : Pa.M × Nat × Nat), r = (m, 0, 3) → Below W.heap.size W wr → tmps.getD 6 undef = .pointer (some ⟨w.heap.size + 1, 0, none⟩) → tmps.getD 7 undef = .int .i64 0 → tmps.getD 8 undef = .int .i64 3 →
   bodyPost Tryz.prog Tryz.f20 (IsPaN R r w) Exit.ret ⟨tmps, []⟩ (wr.setRow (w.heap.size + 1) D)) := fun wr tmps r hr hbr h4 h5 h6 => by
  subst hr
  have hw1 : w.heap.size + 1 < W.heap.size := by have := HWS.out; omega
  have hzr := HZT.out.below hbr hw1
  have hT : Turned (fun k => w.heap.size ≤ k) w (wr.setRow (w.heap.size + 1) D) := Turned.of_below (below_setRow (HB.out.trans (hbr.mono HB.out.size)) (by omega) _)
  refine bodyPost_ret (v := .tuple #[.agg D, .int .i64 0, .int .i64 3]) (results_pa3 rfl _ _ (w.heap.size + 1) D _ _ _ h4 h5 h6 HSD.out (Rw.row hzr D)) rfl ⟨_, rfl, ⟨A, c, by rw [← HDD.out], HF.out.1, HF.out.2, pgs_old HP0.out hT HRL.out⟩, below_setRow (HB.out.trans (hbr.mono HB.out.size)) (by omega) _⟩
 clear hb hp hD hf hs hl hWs hZ hzs hsz hco hzc hcs hR hkd v1 v2
 by_cases hlim : 496 < body.length
 ·have HE : Hid (Pa.add m kd body = (m, 0, 3)) := if_pos hlim
  have hi : (496 : Int) < (body.length : Int) := by omega
  clear hlim
  go_enter Tryz.func20, Tryz.ntmps20
  go_wp2_with (first
   | ((with_reducible refine gate_load 37 ?_); refine wpList_load_row rfl 37 _ rfl w.heap.size rfl 37 D (0, 0) _ HDT.out Tryz.underlying37 rfl HSD.out ?_)
   | ((with_reducible refine gate_store 37 ?_); refine wpList_store_row rfl 37 _ _ rfl (w.heap.size + 1) D rfl rfl 37 _ HZT.out HSD.out HZC.out HOD.out ?_))
  exact HNO.out W _ _ HE.out (Below.refl _ _) rfl rfl rfl
 have hi : ¬ (496 : Int) < (body.length : Int) := by omega
 have HBL : Hid (body.length ≤ 496) := by unfold Hid; omega
 have HE0 : Hid (Pa.add m kd body = if 65536 ≤ 2 + Pa.gap m.l 2 then (m, 0, 3) else ({ m with l := Pa.addL m.l kd body }, 2 + Pa.gap m.l 2, 0)) := if_neg hlim
 clear hlim
 go_enter Tryz.func20, Tryz.ntmps20
 go_wp2
 go_loopw [9, 10] (fun n i wr => ∃ k : Nat, k ≤ m.l.length ∧ n = .int .i64 ((k : Int) + 2) ∧ i = .int .i64 k ∧ wr = W ∧ Hid (∀ j x, j < k → m.l[j]? = some x → x.n = 2 + j)) (fun _ i _ => m.l.length - (intOf i).toNat)
 case atStart => exact ⟨0, by omega, rfl, rfl, rfl, by intro j x hj; omega⟩
 case round =>
  obtain ⟨k, hk, rfl, rfl, rfl, HT⟩ := hrel
  have hg0 : w.heap.size < wr.heap.size := by have := HWS.out; omega
  have c7 : wr.cell? ⟨w.heap.size, 7, none⟩ = some (.slice A m.l.length c) := HAT.out.cell 7
  have hle : m.l.length ≤ 1000000 := HL.out
  have w1 : IntKind.i64.wrap ((k : Int) + 2 + 1) = (k : Int) + 2 + 1 := by rw [IntKind.wrap_i64]; omega
  have hlc : m.l.length ≤ 9223372036854775807 := by omega
  by_cases hgo : ∃ x, m.l[k]? = some x ∧ x.n = 2 + k
  ·obtain ⟨q, hq, hqn⟩ := hgo
   have hlt : k < m.l.length := (List.getElem?_eq_some_iff.1 hq).1
   obtain ⟨b, off, x, q', hA, hbl2, hRb, hxo, hq', ho, hm⟩ := HP.out.at_ hlt
   rw [hq] at hq'
   obtain rfl := Option.some.inj hq'
   subst hA
   have e0 : wr.cell? ⟨b, off + k * 4, none⟩ = some (.int .i64 (x.n : Nat)) := hm 0 _ rfl
   have hxn : (x.n : Int) = (k : Int) + 2 := by have := ho.1; omega
   rw [hxn] at e0
   have HQ := Lib.hid hq
   have HQN := Lib.hid hqn
   clear hm ho hq' hqn hxn hRb hxo hbl2 hle hq
   go_wp2
   go_roundw
   case rel =>
    refine ⟨k + 1, by omega, by go_num, by go_num, trivial, ?_⟩
    intro j y hj hy
    by_cases e : j = k
    ·subst e
     rw [HQ.out] at hy
     obtain rfl := Option.some.inj hy
     exact HQN.out
    ·exact HT.out j y (by omega) hy
   case measure => simp [intOf]; omega
  ·have HG : Hid (Pa.gap m.l 2 = k) := Pa.gap_at HT.out hk (fun x hx e => hgo ⟨x, hx, e⟩)
   have HKL := Lib.hid hk
   rw [HG.out] at HE0
   obtain ⟨us, hul, hus, hrel⟩ := HP.out
   have hlow := hus.low_ HRL.out
   have HLO := Lib.hid hlow
   have HPO : Hid (PgsO wr R us m.l) := ⟨hul, hrel⟩
   obtain ⟨e1, e2, e3⟩ := hlow.len_
   have hlc2 : m.l.length ≤ c := by omega
   have hcc : c ≤ maxLen := e3
   have hcut : (¬ (k : Int) < (m.l.length : Int)) ∨ ∃ b off xn, A = some ⟨b, off, none⟩ ∧ k < m.l.length ∧ wr.cell? ⟨b, off + k * 4, none⟩ = some (.int .i64 (xn : Nat)) ∧ ((xn : Int) == (k : Int) + 2) = false := by
    rcases Nat.lt_or_ge k m.l.length with h | h
    ·obtain ⟨b, off, x, q', hA, _, _, _, hq', ho, hm⟩ := HP.out.at_ h
     refine .inr ⟨b, off, x.n, hA, h, hm 0 _ rfl, ?_⟩
     rw [beq_eq_false_iff_ne]
     intro e
     exact hgo ⟨q', hq', by have := ho.1; omega⟩
    ·exact .inl (by omega)
   clear hul hus hrel hlow e1 e3 hgo HP hW
   by_cases hbig : 65536 ≤ 2 + k
   ·have HE : Hid (Pa.add m kd body = (m, 0, 3)) := by unfold Hid; rw [HE0.out, if_pos hbig]
    have hbi : (65536 : Int) ≤ (k : Int) + 2 := by omega
    clear HE0 hbig hlc2 hcc e2
    rcases hcut with hcut | ⟨b, off, xn, rfl, hlt, e0, en⟩
    ·skip
     go_wp2_with (first
      | ((with_reducible refine gate_load 37 ?_); refine wpList_load_row rfl 37 _ rfl w.heap.size rfl 37 D (0, 0) _ HDT.out Tryz.underlying37 rfl HSD.out ?_)
      | ((with_reducible refine gate_store 37 ?_); refine wpList_store_row rfl 37 _ _ rfl (w.heap.size + 1) D rfl rfl 37 _ HZT.out HSD.out HZC.out HOD.out ?_))
     exact HNO.out wr _ _ HE.out (Below.refl _ _) rfl rfl rfl
    ·go_wp2_with (first
      | ((with_reducible refine gate_load 37 ?_); refine wpList_load_row rfl 37 _ rfl w.heap.size rfl 37 D (0, 0) _ HDT.out Tryz.underlying37 rfl HSD.out ?_)
      | ((with_reducible refine gate_store 37 ?_); refine wpList_store_row rfl 37 _ _ rfl (w.heap.size + 1) D rfl rfl 37 _ HZT.out HSD.out HZC.out HOD.out ?_))
     exact HNO.out wr _ _ HE.out (Below.refl _ _) rfl rfl rfl
   ·have HE : Hid (Pa.add m kd body = ({ m with l := Pa.addL m.l kd body }, 2 + k, 0)) := by unfold Hid; rw [HE0.out, if_neg hbig]
    have HAL : Hid (Pa.addL m.l kd body = m.l.take k ++ ⟨2 + k, 2, kd, body⟩ :: m.l.drop k) := by unfold Hid Pa.addL; rw [HG.out]
    have hbi : ¬ (65536 : Int) ≤ (k : Int) + 2 := by omega
    have HK6 : Hid (k < 65536) := by unfold Hid; omega
    have s1 := fun w => cut_to gK gK_el A m.l.length c k (by omega) w
    have s2 := fun w => cutAt_to gK gK_el A m.l.length c k (by omega) w
    change ∀ w, (Instr.slice 35 (.slice A m.l.length c) none (some (.int .i64 (k : Nat))) none).run Tryz.prog w = _ at s1
    change ∀ w, (Instr.sliceAt 35 (.slice A m.l.length c) none (some (.int .i64 (k : Nat))) none).run Tryz.prog w = _ at s2
    have htk := HLO.out.take_ (k := k) (by have h1 := HPO.out.1; omega)
    have HTK := Lib.hid htk
    have HTL : Hid ((us.take k).length = k) := by unfold Hid; have h1 := HPO.out.1; rw [List.length_take]; omega
    have hz0 : w.heap.size ≤ wr.heap.size := HB.out.size
    have HZ0 := Lib.hid hz0
    have HNIL := Lib.hid (OwnL.nil_ gK wr wr.heap.size)
    have HUL : Hid (us.length = m.l.length) := HPO.out.1
    have HKL := Lib.hid hk
    have HLC := Lib.hid hlc2
    clear HE0 hbig hcc e2 htk hz0 hlc2
    rcases hcut with hcut | ⟨b, off, xn, rfl, hlt, e0, en⟩
    ·skip
     obtain ⟨u1, hu1⟩ : ∃ u, us.take k = u := ⟨_, rfl⟩
     obtain ⟨u2, hu2⟩ : ∃ u, us.drop k = u := ⟨_, rfl⟩
     rw [hu1] at HTK HTL
     have HU1 := Lib.hid hu1
     have HU2 := Lib.hid hu2
     clear hu1 hu2
     go_wp2_with (at_builtin; go_must (refine wpList_append_l _ gK rfl (.tmp 38) (.tmp 42) rfl wr.heap.size _ rfl [] HNIL.out _ rfl w.heap.size _ HTK.out (by rw [HTL.out]; have := HK6.out; show _ * 48 ≤ _; simp only [List.length_nil]; omega) (by rw [HTL.out]; have := HK6.out; simp only [maxLen, List.length_nil]; omega) (Nat.le_refl _) ?_; intro A1 c1 wa hA1 hG1))
     have hTa : Below wr.heap.size wr wa := (Below.refl _ _).grown hG1 (Nat.le_refl _) (fun k hk => by cases hk)
     have HTA := Lib.hid hTa
     have hOa : OwnL gK wa wr.heap.size (.slice A1 u1.length c1) u1 := hA1
     have HOA := Lib.hid hOa
     clear hG1 hA1 hOa s1 s2
     refine (copyO_any _ body w.heap.size wa (HVB.out.below_ hTa HZ0.out) (by have := HBL.out; omega)).mono ?_
     rintro e w3 ⟨A5, c5, rfl, o5, b5⟩
     have HTB : Hid (Below wr.heap.size wr w3) := hTa.trans (b5.mono hTa.size)
     have HO5 := Lib.hid o5
     have HOB := Lib.hid (HOA.out.below_ b5 (Nat.le_refl _))
     have hzab : wr.heap.size ≤ wa.heap.size := hTa.size
     have HZAB := Lib.hid hzab
     obtain ⟨bl, hble⟩ : ∃ bl, body.length = bl := ⟨_, rfl⟩
     have HBE := Lib.hid hble
     rw [hble] at o5 ⊢
     have HXN : Hid (RawPOk ⟨k + 2, 2, kd, A5, bl, c5⟩) := ⟨by have := HK6.out; show k + 2 < 1048576; omega, by show 2 < 256; omega, HKD.out⟩
     have c73 : w3.cell? ⟨w.heap.size, 7, none⟩ = some (.slice A m.l.length c) := (HTB.out.cell (p := ⟨w.heap.size, 7, none⟩) hg0).trans c7
     obtain ⟨A7, s3, s4, hdr, hbk⟩ := cut_from gK gK_el A m.l.length c k HKL.out HLC.out
     change ∀ w, (Instr.slice 35 (.slice A m.l.length c) (some (.int .i64 (k : Nat))) none none).run Tryz.prog w = _ at s3
     change ∀ w, (Instr.sliceAt 35 (.slice A m.l.length c) (some (.int .i64 (k : Nat))) none none).run Tryz.prog w = _ at s4
     have HDR := Lib.hid hdr
     have HZ3 : Hid (wr.heap.size ≤ w3.heap.size) := HTB.out.size
     have hOL1 : u1.length = k := HTL.out
     have hk6' := HK6.out
     have HS1 : Hid ((u1.length + 1) * 48 ≤ 140737488355328 ∧ u1.length + 1 ≤ maxLen) := by have := HK6.out; unfold Hid maxLen; omega
     have HDL : Hid (u2.length ≤ 1000000) := by have h1 := HPO.out.1; have := HL.out; unfold Hid; rw [← HU2.out, List.length_drop]; omega
     clear hTa b5 o5 hzab hble hdr c7 hOL1 hk6'
     go_upto_region 13 with (at_builtin; go_must (refine wpList_push_l w3 gK ?zg1 ?zs ?zt ?zg2 wr.heap.size (.slice A1 u1.length c1) ?zg3 u1 HOB.out ?zg4 ⟨k + 2, 2, kd, A5, bl, c5⟩ HXN.out ?zcs ?zg5 ?ze ?zg6 HS1.out.1 HS1.out.2 HZ3.out ?zh; (case zg1 => exact rfl); (case zg2 => exact rfl); (case zg3 => exact rfl); (case zg4 => exact rfl); (case zg5 => exact rfl); (case zg6 => exact rfl); intro A8 c8 wc hA8 hG8; have hOc : OwnL gK wc wr.heap.size (.slice A8 (u1.length + 1) c8) (u1 ++ [⟨k + 2, 2, kd, A5, bl, c5⟩]) := hA8; have hTc : Below wr.heap.size wr wc := HTB.out.grown hG8 HZ3.out (fun q hq => (HOB.out.lt_ q hq).1); have hLd := HDR.out wc w.heap.size us (HLO.out.below_ hTc HZ0.out); rw [HU2.out] at hLd; have hzc : wr.heap.size ≤ wc.heap.size := hTc.size; have c7c : wc.cell? ⟨w.heap.size, 7, none⟩ = some (.slice A m.l.length c) := (hG8.cell (a := ⟨w.heap.size, 7, none⟩) c73 (fun e => by have h9 := (HOB.out.lt_ w.heap.size e.symm).1; omega))))
     go_upto_region 14 with (at_builtin; go_must (refine wpList_append_l wc gK ?yg1 ?ys ?yt ?yg2 wr.heap.size (.slice A8 (u1.length + 1) c8) ?yg3 (u1 ++ [⟨k + 2, 2, kd, A5, bl, c5⟩]) hOc (.slice A7 (m.l.length - k) (c - k)) ?yg4 w.heap.size u2 hLd (by have h1 := HTL.out; have h2 := HK6.out; have h3 := HDL.out; show _ * 48 ≤ _; simp only [List.length_append, List.length_singleton]; omega) (by have h1 := HTL.out; have h2 := HK6.out; have h3 := HDL.out; simp only [maxLen, List.length_append, List.length_singleton]; omega) hzc ?yh; (case yg1 => exact rfl); (case yg2 => exact rfl); (case yg3 => exact rfl); (case yg4 => exact rfl); intro A9 c9 wd hA9 hG9; generalize hu9 : u1 ++ [(⟨k + 2, 2, kd, A5, bl, c5⟩ : RawP)] ++ u2 = u9 at hA9 ⊢; have HU9 := Lib.hid hu9; clear hu9))
     have hTd : Below wr.heap.size wr wd := hTc.grown hG9 hzc (fun q hq => (hOc.lt_ q hq).1)
     have hO5c : OwnL yK wc wa.heap.size (.slice A5 bl c5) body := by
      have h := HO5.out
      rw [HBE.out] at h
      exact h.kept_ hG8 (own_ne_or fun q hq => own_twoN h HOB.out (by decide) hq)
     have hO5d : OwnL yK wd wa.heap.size (.slice A5 bl c5) body := hO5c.kept_ hG9 (own_ne_or fun q hq => own_twoN hO5c hOc (by decide) hq)
     have hpo : PgsO wd (fun q => R q ∨ (Value.slice A5 bl c5).ownBlock = some q) u9 (Pa.addL m.l kd body) := by
      have h1 := ((HPO.out.take k).below_ hTd).more_ (S := fun q => R q ∨ (Value.slice A5 bl c5).ownBlock = some q) (fun q hq => .inl hq)
      have h2 := ((HPO.out.drop k).below_ hTd).more_ (S := fun q => R q ∨ (Value.slice A5 bl c5).ownBlock = some q) (fun q hq => .inl hq)
      rw [HU1.out] at h1
      rw [HU2.out] at h2
      have h3 : PgOf wd (fun q => R q ∨ (Value.slice A5 bl c5).ownBlock = some q) ⟨k + 2, 2, kd, A5, bl, c5⟩ ⟨2 + k, 2, kd, body⟩ := ⟨Nat.add_comm 2 k, rfl, rfl, hO5d.form_, fun _ q hq => .inr hq⟩
      have h4 := (h1.snoc h3).app h2
      rw [HU9.out] at h4
      rw [HAL.out]
      simpa using h4
     have HPO2 := Lib.hid hpo
     have HOD2 : Hid (OwnL gK wd wr.heap.size (.slice A9 u9.length c9) u9) := hA9
     have HOY := Lib.hid hO5d
     have hul9 := hpo.1
     have HUL9 := Lib.hid hul9
     have hD0 : Rw wd w.heap.size 37 (paC m.root A m.l.length c m.size) := HAT.out.below hTd hg0
     have HD0 := Lib.hid hD0
     have hz1 : Rw wd (w.heap.size + 1) 37 Z := HZT.out.below hTd (by have := HWS.out; omega)
     obtain ⟨X, hX⟩ : ∃ X, wd.setCell ⟨w.heap.size, 7, none⟩ (.slice A9 u9.length c9) = X := ⟨_, rfl⟩
     have hXr : Rw X w.heap.size 37 (paC m.root A9 u9.length c9 m.size) := by rw [← hX]; exact hD0.set 7 _
     have HXZ : Hid (Rw X (w.heap.size + 1) 37 Z) := by unfold Hid; rw [← hX]; exact hz1.setOther (by omega) _ _
     have HXT : Hid (Turned (fun k => k = w.heap.size) wd X) := by unfold Hid; rw [← hX]; exact (Turned.refl (fun k => k = w.heap.size) wd).setCell (p := ⟨w.heap.size, 7, none⟩) (fun _ => rfl) _
     have HXBW : Hid (Below w.heap.size w X) := by unfold Hid; rw [← hX]; exact (HB.out.trans (hTd.mono HB.out.size)).setCell (p := ⟨w.heap.size, 7, none⟩) (by show w.heap.size ≤ w.heap.size; omega) _
     have hsz := pa_size
     rw [← paC_size m.root A9 u9.length c9 m.size] at hsz
     have hco := paC_one m.root A9 u9.length c9 m.size
     have hzc9 : Z.size = (paC m.root A9 u9.length c9 m.size).size := by rw [HZS.out, paC_size]
     have c79 : wd.cell? ⟨w.heap.size, 7, none⟩ = some (.slice A m.l.length c) := hD0.cell 7
     have f79 : wd.frozen? ⟨w.heap.size, 7, none⟩ = false := hD0.frozen 7
     obtain ⟨C, hC⟩ : ∃ C, paC m.root A9 u9.length c9 m.size = C := ⟨_, rfl⟩
     rw [hC] at hsz hco hzc9
     have HXC : Hid (Rw X w.heap.size 37 C) := by unfold Hid; rw [← hC]; exact hXr
     have HCC := Lib.hid hC
     have HTD := Lib.hid hTd
     clear hTd hO5c hO5d hpo hA9 hG9 hG8 hOc hTc hLd hzc c7c hul9 hD0 hz1 hXr hC s3 s4 hbk
     go_wp2_with (first
      | ((with_reducible refine gate_load 37 ?_); refine wpList_load_row rfl 37 _ rfl w.heap.size rfl 37 C (0, 0) _ HXC.out Tryz.underlying37 rfl hsz ?_)
      | ((with_reducible refine gate_store 37 ?_); refine wpList_store_row rfl 37 _ _ rfl (w.heap.size + 1) C rfl rfl 37 _ HXZ.out hsz hzc9 hco ?_))
     have hT2 : Turned (fun k => k = w.heap.size ∨ k = w.heap.size + 1) wd (X.setRow (w.heap.size + 1) C) := (HXT.out.mono (G := fun k => k = w.heap.size ∨ k = w.heap.size + 1) (fun k _ h => Or.inl h)).setRow (fun _ => Or.inr rfl) _
     rw [HE.out]
     refine bodyPost_ret (v := .tuple #[.agg C, .int .i64 ((2 + k : Nat) : Int), .int .i64 0]) (results_pa3 rfl _ _ (w.heap.size + 1) C _ _ _ rfl (by rw [show ((2 + k : Nat) : Int) = (k : Int) + 2 by omega]; rfl) rfl hsz (Rw.row HXZ.out C)) rfl ⟨_, rfl, ⟨A9, c9, ?_, HF.out.1, HF.out.2, ?_⟩, below_setRow HXBW.out (by omega) _⟩
     ·rw [← HCC.out, HUL9.out]
     ·refine pgs_ret HOD2.out HPO2.out hT2 (fun q hq => by have := HWS.out; omega) (fun q hq hr => ?_) (fun q hq => ?_) HB.out.size
      ·rcases hr with hr | hr
       ·have := HRL.out q hr; omega
       ·have h1 := (HOY.out.lt_ q hr).1
        have h2 := HZAB.out
        have := HWS.out
        omega
      ·rcases hq with hq | hq
       ·exact .inl hq
       ·have h1 := HOY.out.lt_ q hq
        have h2 := HZAB.out
        have h3 := HZ0.out
        exact .inr ⟨by omega, Nat.lt_of_lt_of_le h1.2 hT2.size⟩
    ·skip
     obtain ⟨u1, hu1⟩ : ∃ u, us.take k = u := ⟨_, rfl⟩
     obtain ⟨u2, hu2⟩ : ∃ u, us.drop k = u := ⟨_, rfl⟩
     rw [hu1] at HTK HTL
     have HU1 := Lib.hid hu1
     have HU2 := Lib.hid hu2
     clear hu1 hu2
     go_wp2_with (at_builtin; go_must (refine wpList_append_l _ gK rfl (.tmp 38) (.tmp 42) rfl wr.heap.size _ rfl [] HNIL.out _ rfl w.heap.size _ HTK.out (by rw [HTL.out]; have := HK6.out; show _ * 48 ≤ _; simp only [List.length_nil]; omega) (by rw [HTL.out]; have := HK6.out; simp only [maxLen, List.length_nil]; omega) (Nat.le_refl _) ?_; intro A1 c1 wa hA1 hG1))
     have hTa : Below wr.heap.size wr wa := (Below.refl _ _).grown hG1 (Nat.le_refl _) (fun k hk => by cases hk)
     have HTA := Lib.hid hTa
     have hOa : OwnL gK wa wr.heap.size (.slice A1 u1.length c1) u1 := hA1
     have HOA := Lib.hid hOa
     clear hG1 hA1 hOa s1 s2
     refine (copyO_any _ body w.heap.size wa (HVB.out.below_ hTa HZ0.out) (by have := HBL.out; omega)).mono ?_
     rintro e w3 ⟨A5, c5, rfl, o5, b5⟩
     have HTB : Hid (Below wr.heap.size wr w3) := hTa.trans (b5.mono hTa.size)
     have HO5 := Lib.hid o5
     have HOB := Lib.hid (HOA.out.below_ b5 (Nat.le_refl _))
     have hzab : wr.heap.size ≤ wa.heap.size := hTa.size
     have HZAB := Lib.hid hzab
     obtain ⟨bl, hble⟩ : ∃ bl, body.length = bl := ⟨_, rfl⟩
     have HBE := Lib.hid hble
     rw [hble] at o5 ⊢
     have HXN : Hid (RawPOk ⟨k + 2, 2, kd, A5, bl, c5⟩) := ⟨by have := HK6.out; show k + 2 < 1048576; omega, by show 2 < 256; omega, HKD.out⟩
     have c73 : w3.cell? ⟨w.heap.size, 7, none⟩ = some (.slice (some ⟨b, off, none⟩) m.l.length c) := (HTB.out.cell (p := ⟨w.heap.size, 7, none⟩) hg0).trans c7
     obtain ⟨A7, s3, s4, hdr, hbk⟩ := cut_from gK gK_el (some ⟨b, off, none⟩) m.l.length c k HKL.out HLC.out
     change ∀ w, (Instr.slice 35 (.slice (some ⟨b, off, none⟩) m.l.length c) (some (.int .i64 (k : Nat))) none none).run Tryz.prog w = _ at s3
     change ∀ w, (Instr.sliceAt 35 (.slice (some ⟨b, off, none⟩) m.l.length c) (some (.int .i64 (k : Nat))) none none).run Tryz.prog w = _ at s4
     have HDR := Lib.hid hdr
     have HZ3 : Hid (wr.heap.size ≤ w3.heap.size) := HTB.out.size
     have hOL1 : u1.length = k := HTL.out
     have hk6' := HK6.out
     have HS1 : Hid ((u1.length + 1) * 48 ≤ 140737488355328 ∧ u1.length + 1 ≤ maxLen) := by have := HK6.out; unfold Hid maxLen; omega
     have HDL : Hid (u2.length ≤ 1000000) := by have h1 := HPO.out.1; have := HL.out; unfold Hid; rw [← HU2.out, List.length_drop]; omega
     clear hTa b5 o5 hzab hble hdr c7 hOL1 hk6'
     go_upto_region 13 with (at_builtin; go_must (refine wpList_push_l w3 gK ?zzg1 ?zzs ?zzt ?zzg2 wr.heap.size (.slice A1 u1.length c1) ?zzg3 u1 HOB.out ?zzg4 ⟨k + 2, 2, kd, A5, bl, c5⟩ HXN.out ?zzcs ?zzg5 ?zze ?zzg6 HS1.out.1 HS1.out.2 HZ3.out ?zzh; (case zzg1 => exact rfl); (case zzg2 => exact rfl); (case zzg3 => exact rfl); (case zzg4 => exact rfl); (case zzg5 => exact rfl); (case zzg6 => exact rfl); intro A8 c8 wc hA8 hG8; have hOc : OwnL gK wc wr.heap.size (.slice A8 (u1.length + 1) c8) (u1 ++ [⟨k + 2, 2, kd, A5, bl, c5⟩]) := hA8; have hTc : Below wr.heap.size wr wc := HTB.out.grown hG8 HZ3.out (fun q hq => (HOB.out.lt_ q hq).1); have hLd := HDR.out wc w.heap.size us (HLO.out.below_ hTc HZ0.out); rw [HU2.out] at hLd; have hzc : wr.heap.size ≤ wc.heap.size := hTc.size; have c7c : wc.cell? ⟨w.heap.size, 7, none⟩ = some (.slice (some ⟨b, off, none⟩) m.l.length c) := (hG8.cell (a := ⟨w.heap.size, 7, none⟩) c73 (fun e => by have h9 := (HOB.out.lt_ w.heap.size e.symm).1; omega))))
     go_upto_region 14 with (at_builtin; go_must (refine wpList_append_l wc gK ?yyg1 ?yys ?yyt ?yyg2 wr.heap.size (.slice A8 (u1.length + 1) c8) ?yyg3 (u1 ++ [⟨k + 2, 2, kd, A5, bl, c5⟩]) hOc (.slice A7 (m.l.length - k) (c - k)) ?yyg4 w.heap.size u2 hLd (by have h1 := HTL.out; have h2 := HK6.out; have h3 := HDL.out; show _ * 48 ≤ _; simp only [List.length_append, List.length_singleton]; omega) (by have h1 := HTL.out; have h2 := HK6.out; have h3 := HDL.out; simp only [maxLen, List.length_append, List.length_singleton]; omega) hzc ?yyh; (case yyg1 => exact rfl); (case yyg2 => exact rfl); (case yyg3 => exact rfl); (case yyg4 => exact rfl); intro A9 c9 wd hA9 hG9; generalize hu9 : u1 ++ [(⟨k + 2, 2, kd, A5, bl, c5⟩ : RawP)] ++ u2 = u9 at hA9 ⊢; have HU9 := Lib.hid hu9; clear hu9))
     have hTd : Below wr.heap.size wr wd := hTc.grown hG9 hzc (fun q hq => (hOc.lt_ q hq).1)
     have hO5c : OwnL yK wc wa.heap.size (.slice A5 bl c5) body := by
      have h := HO5.out
      rw [HBE.out] at h
      exact h.kept_ hG8 (own_ne_or fun q hq => own_twoN h HOB.out (by decide) hq)
     have hO5d : OwnL yK wd wa.heap.size (.slice A5 bl c5) body := hO5c.kept_ hG9 (own_ne_or fun q hq => own_twoN hO5c hOc (by decide) hq)
     have hpo : PgsO wd (fun q => R q ∨ (Value.slice A5 bl c5).ownBlock = some q) u9 (Pa.addL m.l kd body) := by
      have h1 := ((HPO.out.take k).below_ hTd).more_ (S := fun q => R q ∨ (Value.slice A5 bl c5).ownBlock = some q) (fun q hq => .inl hq)
      have h2 := ((HPO.out.drop k).below_ hTd).more_ (S := fun q => R q ∨ (Value.slice A5 bl c5).ownBlock = some q) (fun q hq => .inl hq)
      rw [HU1.out] at h1
      rw [HU2.out] at h2
      have h3 : PgOf wd (fun q => R q ∨ (Value.slice A5 bl c5).ownBlock = some q) ⟨k + 2, 2, kd, A5, bl, c5⟩ ⟨2 + k, 2, kd, body⟩ := ⟨Nat.add_comm 2 k, rfl, rfl, hO5d.form_, fun _ q hq => .inr hq⟩
      have h4 := (h1.snoc h3).app h2
      rw [HU9.out] at h4
      rw [HAL.out]
      simpa using h4
     have HPO2 := Lib.hid hpo
     have HOD2 : Hid (OwnL gK wd wr.heap.size (.slice A9 u9.length c9) u9) := hA9
     have HOY := Lib.hid hO5d
     have hul9 := hpo.1
     have HUL9 := Lib.hid hul9
     have hD0 : Rw wd w.heap.size 37 (paC m.root (some ⟨b, off, none⟩) m.l.length c m.size) := HAT.out.below hTd hg0
     have HD0 := Lib.hid hD0
     have hz1 : Rw wd (w.heap.size + 1) 37 Z := HZT.out.below hTd (by have := HWS.out; omega)
     obtain ⟨X, hX⟩ : ∃ X, wd.setCell ⟨w.heap.size, 7, none⟩ (.slice A9 u9.length c9) = X := ⟨_, rfl⟩
     have hXr : Rw X w.heap.size 37 (paC m.root A9 u9.length c9 m.size) := by rw [← hX]; exact hD0.set 7 _
     have HXZ : Hid (Rw X (w.heap.size + 1) 37 Z) := by unfold Hid; rw [← hX]; exact hz1.setOther (by omega) _ _
     have HXT : Hid (Turned (fun k => k = w.heap.size) wd X) := by unfold Hid; rw [← hX]; exact (Turned.refl (fun k => k = w.heap.size) wd).setCell (p := ⟨w.heap.size, 7, none⟩) (fun _ => rfl) _
     have HXBW : Hid (Below w.heap.size w X) := by unfold Hid; rw [← hX]; exact (HB.out.trans (hTd.mono HB.out.size)).setCell (p := ⟨w.heap.size, 7, none⟩) (by show w.heap.size ≤ w.heap.size; omega) _
     have hsz := pa_size
     rw [← paC_size m.root A9 u9.length c9 m.size] at hsz
     have hco := paC_one m.root A9 u9.length c9 m.size
     have hzc9 : Z.size = (paC m.root A9 u9.length c9 m.size).size := by rw [HZS.out, paC_size]
     have c79 : wd.cell? ⟨w.heap.size, 7, none⟩ = some (.slice (some ⟨b, off, none⟩) m.l.length c) := hD0.cell 7
     have f79 : wd.frozen? ⟨w.heap.size, 7, none⟩ = false := hD0.frozen 7
     obtain ⟨C, hC⟩ : ∃ C, paC m.root A9 u9.length c9 m.size = C := ⟨_, rfl⟩
     rw [hC] at hsz hco hzc9
     have HXC : Hid (Rw X w.heap.size 37 C) := by unfold Hid; rw [← hC]; exact hXr
     have HCC := Lib.hid hC
     have HTD := Lib.hid hTd
     clear hTd hO5c hO5d hpo hA9 hG9 hG8 hOc hTc hLd hzc c7c hul9 hD0 hz1 hXr hC s3 s4 hbk
     go_wp2_with (first
      | ((with_reducible refine gate_load 37 ?_); refine wpList_load_row rfl 37 _ rfl w.heap.size rfl 37 C (0, 0) _ HXC.out Tryz.underlying37 rfl hsz ?_)
      | ((with_reducible refine gate_store 37 ?_); refine wpList_store_row rfl 37 _ _ rfl (w.heap.size + 1) C rfl rfl 37 _ HXZ.out hsz hzc9 hco ?_))
     have hT2 : Turned (fun k => k = w.heap.size ∨ k = w.heap.size + 1) wd (X.setRow (w.heap.size + 1) C) := (HXT.out.mono (G := fun k => k = w.heap.size ∨ k = w.heap.size + 1) (fun k _ h => Or.inl h)).setRow (fun _ => Or.inr rfl) _
     rw [HE.out]
     refine bodyPost_ret (v := .tuple #[.agg C, .int .i64 ((2 + k : Nat) : Int), .int .i64 0]) (results_pa3 rfl _ _ (w.heap.size + 1) C _ _ _ rfl (by rw [show ((2 + k : Nat) : Int) = (k : Int) + 2 by omega]; rfl) rfl hsz (Rw.row HXZ.out C)) rfl ⟨_, rfl, ⟨A9, c9, ?_, HF.out.1, HF.out.2, ?_⟩, below_setRow HXBW.out (by omega) _⟩
     ·rw [← HCC.out, HUL9.out]
     ·refine pgs_ret HOD2.out HPO2.out hT2 (fun q hq => by have := HWS.out; omega) (fun q hq hr => ?_) (fun q hq => ?_) HB.out.size
      ·rcases hr with hr | hr
       ·have := HRL.out q hr; omega
       ·have h1 := (HOY.out.lt_ q hr).1
        have h2 := HZAB.out
        have := HWS.out
        omega
      ·rcases hq with hq | hq
       ·exact .inl hq
       ·have h1 := HOY.out.lt_ q hq
        have h2 := HZAB.out
        have h3 := HZ0.out
        exact .inr ⟨by omega, Nat.lt_of_lt_of_le h1.2 hT2.size⟩
end Go.Proofs.YtiafeniflkikeaaGreat
namespace Go.Proofs.YtiafeniflkikeaaGreat
open Go.RowKit
set_option linter.unusedVariables false
namespace Pa
def rootK (m : M) (r : Rt.Root) (l : List Page) : Rt.Root := { r with seq := (m.root.seq + 1) % 18446744073709551616, pages := pages l }
theorem rootK_all (m : M) (r : Rt.Root) : rootK m r m.l = rootOf m r := rfl
def kept (l : List Page) : List Page := (keep l).map used
theorem kept_snoc (l : List Page) (x : Page) : kept (l ++ [x]) = if x.state = 3 then kept l else kept l ++ [used x] := by
 unfold kept; rw [keep_snoc]; split <;> simp
theorem kept_le (l : List Page) : (kept l).length ≤ l.length := by
 unfold kept keep; rw [List.length_map]; exact List.length_filter_le _ _
theorem sizeL_le {l : List Page} (h : ∀ x ∈ l, x.n < 1048576) (s : Nat) (hs : s < 1099511627776) : sizeL s l < 1099511627776 := by
 unfold sizeL
 induction l generalizing s with
 | nil => exact hs
 | cons x l ih =>
  rw [List.foldl_cons]
  refine ih (fun y hy => h y (by simp [hy])) _ ?_
  have := h x (by simp)
  split <;> omega
end Pa
theorem pa_built (r : Rt.Root) (A : Option Addr) (n c s : Nat) :
  Tryz.prog.built 37 [(0, .agg #[.int .u64 (r.seq : Nat), .int .i64 r.page, .int .i64 r.pages, .int .u64 (r.lsn : Nat), .int .u64 (r.next : Nat), .int .i64 r.shard, .int .i64 r.tail]), (1, .slice A n c), (2, .int .i64 (s : Nat))] = some (paC r A n c s) := by kernel_rfl
set_option maxHeartbeats 2000000 in
set_option maxRecDepth 100000 in
theorem rpacommit_any (R : Nat → Prop) (v : Value) (m : Pa.M) (r : Rt.Root) (free : Int) (w : World) (h : PaIs w R v m) (hR : ∀ k, R k → k < w.heap.size) (hl : m.l.length ≤ 1000000) (hr : Rt.Fit r) (hfree : I64 free) :
    Calls Tryz.prog 24 #[v, .agg (rtC r), .int .i64 free] w (IsPaE R (Pa.commit m r free) w) := by
  have hz := (zero_of_info pa_zero).1
  obtain ⟨A, c, rfl, hf, hs, hp⟩ := h
  have hcs := paC_size m.root A m.l.length c m.size
  have hsz := pa_size
  rw [← hcs] at hsz
  have hco := paC_one m.root A m.l.length c m.size
  obtain ⟨Z, hZ⟩ : ∃ Z, none9 = Z := ⟨_, rfl⟩
  have hzs : Z.size = 9 := by rw [← hZ]; rfl
  rw [hZ] at hz
  obtain ⟨D, hD⟩ : ∃ D, paC m.root A m.l.length c m.size = D := ⟨_, rfl⟩
  obtain ⟨E, hE⟩ : ∃ D, rtC r = D := ⟨_, rfl⟩
  have hzc : Z.size = D.size := by rw [hzs, ← hD, paC_size]
  obtain ⟨W0, hW0⟩ : ∃ W, ((w.alloc (.cells D 37)).alloc (.cells E 34)).alloc (.cells Z 37) = W := ⟨_, rfl⟩
  have hat0 : Rw W0 w.heap.size 37 (paC m.root A m.l.length c m.size) := by rw [← hW0, hD]; exact ((Rw.new w _ _).old _).old _
  have hrt0 : Rw W0 (w.heap.size + 1) 34 (rtC r) := by rw [← hW0, hE]; exact (Rw.at_ (by simp) _ _).old _
  have hzt0 : Rw W0 (w.heap.size + 2) 37 Z := by rw [← hW0]; exact Rw.at_ (by simp) _ _
  have hb0 : Below w.heap.size w W0 := by rw [← hW0]; exact (((Below.refl _ _).alloc (Nat.le_refl _) _).alloc (by simp) _).alloc (by simp; omega) _
  have hWs0 : W0.heap.size = w.heap.size + 3 := by rw [← hW0]; simp
  -- two stores into the root
  obtain ⟨sq, hsq⟩ : ∃ s, (m.root.seq + 1) % 18446744073709551616 = s := ⟨_, rfl⟩
  have a0 : W0.cell? ⟨w.heap.size, 0, none⟩ = some (.int .u64 (m.root.seq : Nat)) := hat0.cell 0
  have ws : IntKind.u64.wrap ((m.root.seq : Int) + 1) = (sq : Nat) := by rw [IntKind.wrap_u64]; omega
  have wsm : ((m.root.seq : Int) + 1) % 18446744073709551616 = (sq : Nat) := by omega
  have b0 : W0.cell? ⟨w.heap.size + 1, 0, none⟩ = some (.int .u64 (r.seq : Nat)) := hrt0.cell 0
  have g0 : W0.frozen? ⟨w.heap.size + 1, 0, none⟩ = false := hrt0.frozen 0
  obtain ⟨W1, hW1⟩ : ∃ W1, W0.setCell ⟨w.heap.size + 1, 0, none⟩ (.int .u64 (sq : Nat)) = W1 := ⟨_, rfl⟩
  have hrt1 : Rw W1 (w.heap.size + 1) 34 (rtC { r with seq := sq }) := by rw [← hW1]; exact hrt0.set 0 _
  have b1 : W1.cell? ⟨w.heap.size + 1, 2, none⟩ = some (.int .i64 r.pages) := hrt1.cell 2
  have g1 : W1.frozen? ⟨w.heap.size + 1, 2, none⟩ = false := hrt1.frozen 2
  obtain ⟨W, hW⟩ : ∃ W, W1.setCell ⟨w.heap.size + 1, 2, none⟩ (.int .i64 2) = W := ⟨_, rfl⟩
  have hrt2 : Rw W (w.heap.size + 1) 34 (rtC (Pa.rootK m r [])) := by
    have := hrt1.set 2 (.int .i64 2)
    rw [hW] at this
    have e : Pa.rootK m r [] = { r with seq := sq, pages := 2 } := by unfold Pa.rootK; rw [hsq]; rfl
    rw [e]
    exact this
  have hat : Rw W w.heap.size 37 (paC m.root A m.l.length c m.size) := by rw [← hW, ← hW1]; exact (hat0.setOther (by omega) _ _).setOther (by omega) _ _
  have hzt : Rw W (w.heap.size + 2) 37 Z := by rw [← hW, ← hW1]; exact (hzt0.setOther (by omega) _ _).setOther (by omega) _ _
  have hb : Below w.heap.size w W := by rw [← hW, ← hW1]; exact (hb0.setCell (p := ⟨w.heap.size + 1, 0, none⟩) (by show w.heap.size ≤ w.heap.size + 1; omega) _).setCell (p := ⟨w.heap.size + 1, 2, none⟩) (by show w.heap.size ≤ w.heap.size + 1; omega) _
  have hWs : W.heap.size = w.heap.size + 3 := by rw [← hW, ← hW1]; simpa using hWs0
  have d8 : W.cell? ⟨w.heap.size, 8, none⟩ = some (.int .i64 (m.size : Nat)) := hat.cell 8
  have e1 : W.cell? ⟨w.heap.size + 1, 1, none⟩ = some (.int .i64 r.page) := hrt2.cell 1
  have HAT := Lib.hid hat
  have HRT := Lib.hid hrt2
  have HZT := Lib.hid hzt
  have HWS := Lib.hid hWs
  have HB := Lib.hid hb
  have HP0 := Lib.hid hp
  have HL := Lib.hid hl
  have HF : Hid (Rt.Fit m.root ∧ m.size < 1099511627776) := ⟨hf, hs⟩
  have HZS := Lib.hid hzs
  rw [hD] at hsz hco ⊢
  rw [hE]
  have HDD := Lib.hid hD
  have HRL := Lib.hid hR
  have HSD := Lib.hid hsz
  have HOD := Lib.hid hco
  have HZC := Lib.hid hzc
  have HFR := Lib.hid hr
  have HFREE := Lib.hid hfree
  have HSQ := Lib.hid hsq
  have hz4 := (zero_of_info pg_zero).1
  clear hat hrt2 hzt hWs hb hp hl hf hs hzs hD hE hR hsz hco hzc hr hfree hsq hat0 hrt0 hzt0 hb0 hWs0 hrt1 hcs hZ
  go_enter Tryz.func24, Tryz.ntmps24
  go_wp2
  have HE1 : Hid (∀ l, (rtC (Pa.rootK m r l))[1]? = some (.int .i64 r.page)) := fun l => rfl
  have hinit : (r.page == 0) = Pa.there [] r.page := by
    by_cases h : r.page = 0
    · rw [h]; rfl
    · have e : (r.page == 0) = false := by simpa using h
      rw [e]; simp [Pa.there, Pa.keep, h]
  have HINIT := Lib.hid hinit
  clear a0 ws wsm b0 g0 b1 g1 d8 e1 hW0 hW1 hinit
  go_loopw [8, 9, 10, 11] (fun z9 t9 v9 i9 wr => ∃ (k : Nat) (A2 : Option Addr) (c2 : Nat) (us : List RawP) (sz : Nat) (th : Bool), k ≤ m.l.length ∧ z9 = .int .i64 (sz : Nat) ∧ t9 = .bool th ∧ v9 = .slice A2 us.length c2 ∧ i9 = .int .i64 k ∧ Hid (sz = Pa.sizeL m.size (m.l.take k)) ∧ Hid (th = Pa.there (m.l.take k) r.page) ∧ Hid (PgsO wr R us (Pa.kept (m.l.take k))) ∧ Hid (OwnL gK wr W.heap.size (.slice A2 us.length c2) us) ∧ Hid (Rw wr (w.heap.size + 1) 34 (rtC (Pa.rootK m r (m.l.take k)))) ∧ Hid (Turned (fun q => q = w.heap.size + 1 ∨ W.heap.size ≤ q) W wr)) (fun _ _ _ i9 _ => m.l.length - (intOf i9).toNat)
  case atStart => exact ⟨0, none, 0, [], m.size, (r.page == 0), by omega, rfl, rfl, rfl, rfl, by unfold Hid; rfl, HINIT.out, PgsO.nil_ _ _, OwnL.nil_ _ _ _, HRT.out, Turned.refl _ _⟩
  case round =>
    obtain ⟨k, A2, c2, us, sz, th, hk, rfl, rfl, rfl, rfl, HSIZ, HTH, HU, HO, HRR, HTT⟩ := hrel
    have HSZ : Hid (W.heap.size ≤ wr.heap.size) := HTT.out.size
    have HBR : Hid (Below w.heap.size w wr) := HB.out.trans (HTT.out.below HB.out.size (fun q hq => by have := HWS.out; omega))
    have hg0 : w.heap.size < W.heap.size := by have := HWS.out; omega
    have hatr : Rw wr w.heap.size 37 (paC m.root A m.l.length c m.size) := (HTT.out.block _ hg0 (by have := HWS.out; omega)).trans HAT.out
    have c7 : wr.cell? ⟨w.heap.size, 7, none⟩ = some (.slice A m.l.length c) := hatr.cell 7
    have hPr := HP0.out.below_ HBR.out
    by_cases hlt : k < m.l.length
    · obtain ⟨b, off, x, q, hA, hbl, hRb, hxo, hq, ho, hm⟩ := hPr.at_ hlt
      subst hA
      have HUL : Hid (us.length ≤ 1000000) := by
        have h1 := HU.out.1
        have h2 := Pa.kept_le (m.l.take k)
        rw [List.length_take] at h2
        have := HL.out
        unfold Hid; omega
      have HOQ := Lib.hid ho
      have HXO := Lib.hid hxo
      have HQT : Hid (m.l.take (k + 1) = m.l.take k ++ [q]) := take_snoc hq
      obtain ⟨xn, xs, xk, xA, xm, xc⟩ := x
      have hmm : wr.rangeAt b (off + k * 4) [.int .i64 (xn : Nat), .int .i64 (xs : Nat), .int .u8 (xk : Nat), .slice xA xm xc] := hm
      have HMM := Lib.hid hmm
      obtain ⟨X, hX⟩ : ∃ X, wr.alloc (.cells #[.int .i64 (xn : Nat), .int .i64 (xs : Nat), .int .u8 (xk : Nat), .slice xA xm xc] 99) = X := ⟨_, rfl⟩
      have hXr : Rw X wr.heap.size 99 #[.int .i64 (xn : Nat), .int .i64 (xs : Nat), .int .u8 (xk : Nat), .slice xA xm xc] := by rw [← hX]; exact Rw.new _ _ _
      have hXb : Below wr.heap.size wr X := by rw [← hX]; exact (Below.refl _ _).alloc (Nat.le_refl _) _
      have d0 : X.cell? ⟨wr.heap.size, 0, none⟩ = some (.int .i64 (xn : Nat)) := hXr.cell 0
      have d1 : X.cell? ⟨wr.heap.size, 1, none⟩ = some (.int .i64 (xs : Nat)) := hXr.cell 1
      have hXs : X.heap.size = wr.heap.size + 1 := by rw [← hX]; simp
      have HXS := Lib.hid hXs
      have HXB := Lib.hid hXb
      have HXR := Lib.hid hXr
      have hlc : m.l.length ≤ 9223372036854775807 := by have := HL.out; omega
      have HST : Hid (q.state = xs) := ho.2.1
      have HNX : Hid (q.n = xn) := ho.1
      have hrow := HRR.out
      have hrX : Rw X (w.heap.size + 1) 34 (rtC (Pa.rootK m r (m.l.take k))) := hrow.below hXb hrow.lt
      have HRX := Lib.hid hrX
      clear hm ho hq hPr hbl hRb hxo hmm hXr hXb hXs hatr hrow
      by_cases h3 : xs = 3
      · have h3q : q.state = 3 := by rw [HST.out]; exact h3
        have b3 : ((xs : Int) == 3) = true := by rw [h3]; rfl
        have HK3 : Hid (Pa.kept (m.l.take (k + 1)) = Pa.kept (m.l.take k) ∧ Pa.sizeL m.size (m.l.take (k + 1)) = Pa.sizeL m.size (m.l.take k) ∧ Pa.there (m.l.take (k + 1)) r.page = Pa.there (m.l.take k) r.page ∧ Pa.rootK m r (m.l.take (k + 1)) = Pa.rootK m r (m.l.take k)) := by
          unfold Hid
          rw [HQT.out, Pa.kept_snoc, if_pos h3q, Pa.sizeL_snoc, if_neg (by omega), Pa.there_snoc, if_pos h3q]
          refine ⟨rfl, rfl, rfl, ?_⟩
          unfold Pa.rootK
          rw [Pa.pages_snoc, if_pos h3q]
        clear h3 h3q hrX
        go_wp2_with (first
          | ((with_reducible refine gate_load 99 ?_); refine wpList_load_mid rfl 99 _ rfl b (off + k * 4) rfl _ _ HMM.out Tryz.underlying99 rfl pg_size ?_)
          | ((with_reducible refine gate_store 99 ?_); refine wpList_store_row rfl 99 _ _ rfl wr.heap.size #[.int .i64 (xn : Nat), .int .i64 (xs : Nat), .int .u8 (xk : Nat), .slice xA xm xc] rfl rfl 99 _ (heap_alloc_new wr _) pg_size rfl rfl ?_
             rw [World.setRow_alloc_new, hX]))
        go_roundw
        case rel => exact ⟨k + 1, A2, c2, us, sz, th, by omega, rfl, rfl, rfl, by go_num, by rw [HK3.out.2.1]; exact HSIZ.out, by rw [HK3.out.2.2.1]; exact HTH.out, by rw [HK3.out.1]; exact HU.out.below_ HXB.out, HO.out.below_ HXB.out (Nat.le_refl _), by rw [HK3.out.2.2.2]; exact HRX.out, HTT.out.trans (Turned.of_below HXB.out) (fun j _ hj => .inr (Nat.le_trans HSZ.out hj))⟩
        case measure => simp [intOf]; omega
      · have h3q : q.state ≠ 3 := by rw [HST.out]; exact h3
        have b3 : ((xs : Int) == 3) = false := by rw [beq_eq_false_iff_ne]; omega
        have HK3 : Hid (Pa.kept (m.l.take (k + 1)) = Pa.kept (m.l.take k) ++ [Pa.used q] ∧ Pa.sizeL m.size (m.l.take (k + 1)) = (if xs = 2 then max sz ((xn + 1) * 512) else sz) ∧ Pa.there (m.l.take (k + 1)) r.page = (th || decide ((xn : Int) = r.page)) ∧ Pa.rootK m r (m.l.take (k + 1)) = { Pa.rootK m r (m.l.take k) with pages := (xn : Int) + 1 }) := by
          unfold Hid
          rw [HQT.out, Pa.kept_snoc, if_neg h3q, Pa.sizeL_snoc, HST.out, Pa.there_snoc, if_neg h3q, HNX.out, ← HSIZ.out, ← HTH.out]
          refine ⟨rfl, rfl, rfl, ?_⟩
          unfold Pa.rootK
          rw [Pa.pages_snoc, if_neg h3q, HNX.out]
        have r2 : X.cell? ⟨w.heap.size + 1, 2, none⟩ = some (.int .i64 (Pa.rootK m r (m.l.take k)).pages) := hrX.cell 2
        have rf2 : X.frozen? ⟨w.heap.size + 1, 2, none⟩ = false := hrX.frozen 2
        obtain ⟨pgs, hpgs⟩ : ∃ p, (Pa.rootK m r (m.l.take k)).pages = p := ⟨_, rfl⟩
        rw [hpgs] at r2
        have wn : IntKind.i64.wrap ((xn : Int) + 1) = (xn : Int) + 1 := by have := HXO.out.1; rw [IntKind.wrap_i64]; simp only at this; omega
        have wm : IntKind.i64.wrap (((xn : Int) + 1) * 512) = ((xn : Int) + 1) * 512 := by have := HXO.out.1; rw [IntKind.wrap_i64]; simp only at this; omega
        obtain ⟨Y, hY⟩ : ∃ Y, X.setCell ⟨w.heap.size + 1, 2, none⟩ (.int .i64 ((xn : Int) + 1)) = Y := ⟨_, rfl⟩
        have hrw : wr.heap.size ≠ w.heap.size + 1 := by have := HSZ.out; have := HWS.out; omega
        have hYx : Rw Y wr.heap.size 99 #[.int .i64 (xn : Nat), .int .i64 (xs : Nat), .int .u8 (xk : Nat), .slice xA xm xc] := by rw [← hY]; exact HXR.out.setOther hrw _ _
        have hYr : Rw Y (w.heap.size + 1) 34 (rtC { Pa.rootK m r (m.l.take k) with pages := (xn : Int) + 1 }) := by rw [← hY]; exact hrX.set 2 _
        have y0 : Y.cell? ⟨wr.heap.size, 0, none⟩ = some (.int .i64 (xn : Nat)) := hYx.cell 0
        have y1 : Y.cell? ⟨wr.heap.size, 1, none⟩ = some (.int .i64 (xs : Nat)) := hYx.cell 1
        have yf1 : Y.frozen? ⟨wr.heap.size, 1, none⟩ = false := hYx.frozen 1
        have ye : Y.cell? ⟨w.heap.size + 1, 1, none⟩ = some (.int .i64 r.page) := hYr.cell 1
        have hYT : Turned (fun j => j = w.heap.size + 1 ∨ wr.heap.size ≤ j) wr Y := by rw [← hY]; exact ((Turned.of_below HXB.out).mono (fun j _ hj => .inr hj)).setCell (p := ⟨w.heap.size + 1, 2, none⟩) (fun _ => .inl rfl) _
        obtain ⟨Y2, hY2⟩ : ∃ Y2, Y.setCell ⟨wr.heap.size, 1, none⟩ (.int .i64 1) = Y2 := ⟨_, rfl⟩
        have HY2R : Hid (Rw Y2 wr.heap.size 99 #[.int .i64 (xn : Nat), .int .i64 1, .int .u8 (xk : Nat), .slice xA xm xc]) := by unfold Hid; rw [← hY2]; exact hYx.set 1 _
        have HY2Q : Hid (Rw Y2 (w.heap.size + 1) 34 (rtC { Pa.rootK m r (m.l.take k) with pages := (xn : Int) + 1 })) := by unfold Hid; rw [← hY2]; exact hYr.setOther (by omega) _ _
        have hY2T : Turned (fun j => j = w.heap.size + 1 ∨ wr.heap.size ≤ j) wr Y2 := by rw [← hY2]; exact hYT.setCell (p := ⟨wr.heap.size, 1, none⟩) (fun h => absurd h (Nat.lt_irrefl _)) _
        have HY2T := Lib.hid hY2T
        have HY2S : Hid (W.heap.size ≤ Y2.heap.size) := Nat.le_trans HSZ.out hY2T.size
        have HO2 : Hid (OwnL gK Y2 W.heap.size (.slice A2 us.length c2) us) := HO.out.turned_ hY2T (fun j hj hf => by
          have h1 := HO.out.lt_ j hj
          have := HWS.out
          omega)
        have HU2 : Hid (PgsO Y2 R us (Pa.kept (m.l.take k))) := HU.out.turned_ hY2T (fun j hj hf => by have := HRL.out j hj; have := HSZ.out; have := HWS.out; omega)
        have HPN : Hid (PgOf Y2 R ⟨xn, 1, xk, xA, xm, xc⟩ (Pa.used q)) := ⟨HOQ.out.1, rfl, HOQ.out.2.2.1, HOQ.out.2.2.2.turned_ hY2T (fun j hj hf => by have := HRL.out j hj; have := HSZ.out; have := HWS.out; omega)⟩
        have HXN : Hid (RawPOk ⟨xn, 1, xk, xA, xm, xc⟩) := ⟨HXO.out.1, by show 1 < 256; omega, HXO.out.2.2⟩
        have HUL2 : Hid ((us.length + 1) * 48 ≤ 140737488355328 ∧ us.length + 1 ≤ maxLen) := by have := HUL.out; unfold Hid maxLen; omega
        have HTW : Hid (Turned (fun j => j = w.heap.size + 1 ∨ W.heap.size ≤ j) W Y2) := HTT.out.trans hY2T (fun j _ hj => hj.elim .inl (fun h => .inr (Nat.le_trans HSZ.out h)))
        have HREL : Hid (∀ (A6 : Option Addr) (c6 : Nat) (w6 : World), OwnL gK w6 W.heap.size (.slice A6 (us.length + 1) c6) (us ++ [⟨xn, 1, xk, xA, xm, xc⟩]) → Y2.grownBy w6 (Value.slice A2 us.length c2).ownBlock →
            PgsO w6 R (us ++ [⟨xn, 1, xk, xA, xm, xc⟩]) (Pa.kept (m.l.take (k + 1))) ∧ Rw w6 (w.heap.size + 1) 34 (rtC (Pa.rootK m r (m.l.take (k + 1)))) ∧ Turned (fun j => j = w.heap.size + 1 ∨ W.heap.size ≤ j) W w6) := fun A6 c6 w6 hA6 hG6 => by
          have hlo : ∀ j, (Value.slice A2 us.length c2).ownBlock = some j → W.heap.size ≤ j := fun j hj => (HO2.out.lt_ j hj).1
          refine ⟨?_, ?_, HTW.out.trans (Turned.of_grown hG6) (fun j _ hj => .inr (hlo j hj))⟩
          · rw [HK3.out.1]
            exact (HU2.out.snoc HPN.out).turned_ (Turned.of_grown hG6) (fun j hj e => by
              have h1 := hlo j e
              have h2 := HRL.out j hj
              have := HWS.out
              omega)
          · rw [HK3.out.2.2.2]
            exact (hG6.block _ HY2Q.out.lt (fun e => by have h1 := hlo _ e.symm; have := HWS.out; omega)).trans HY2Q.out
        clear h3 h3q hrX hpgs hrw hYx hYr hYT hY2T
        cases th with
        | true =>
          have HTN : Hid (Pa.there (m.l.take (k + 1)) r.page = true) := by unfold Hid; rw [HK3.out.2.2.1]; rfl
          by_cases h2 : xs = 2
          · have b2 : ((xs : Int) == 2) = true := by rw [h2]; rfl
            have HSN : Hid (Pa.sizeL m.size (m.l.take (k + 1)) = max sz ((xn + 1) * 512)) := by unfold Hid; rw [HK3.out.2.1, if_pos h2]
            clear h2
            go_wp2_with (first
              | ((with_reducible refine gate_load 99 ?_); refine wpList_load_mid rfl 99 _ rfl b (off + k * 4) rfl _ _ HMM.out Tryz.underlying99 rfl pg_size ?_)
              | ((with_reducible refine gate_store 99 ?_); refine wpList_store_row rfl 99 _ _ rfl wr.heap.size #[.int .i64 (xn : Nat), .int .i64 (xs : Nat), .int .u8 (xk : Nat), .slice xA xm xc] rfl rfl 99 _ (heap_alloc_new wr _) pg_size rfl rfl ?_
                 rw [World.setRow_alloc_new, hX])
              | ((with_reducible refine gate_load 99 ?_); refine wpList_load_row rfl 99 _ rfl wr.heap.size rfl 99 #[.int .i64 (xn : Nat), .int .i64 1, .int .u8 (xk : Nat), .slice xA xm xc] (0, 0) _ HY2R.out Tryz.underlying99 rfl pg_size ?_)
              | (at_builtin; go_must (refine wpList_push_l _ gK rfl _ _ rfl W.heap.size _ rfl us HO2.out rfl ⟨xn, 1, xk, xA, xm, xc⟩ HXN.out _ rfl _ rfl HUL2.out.1 HUL2.out.2 HY2S.out ?_; intro A6 c6 w6 hA6 hG6)))
            obtain ⟨k1, k2, k3⟩ := HREL.out A6 c6 w6 hA6 hG6
            go_roundw
            case rel =>
              have hl1 : (us ++ [(⟨xn, 1, xk, xA, xm, xc⟩ : RawP)]).length = us.length + 1 := by simp
              exact ⟨k + 1, A6, c6, _, max sz ((xn + 1) * 512), true, by omega, by congr 1; first | (split <;> omega) | omega, rfl, by rw [hl1], by go_num, HSN.out.symm, HTN.out.symm, k1, by rw [hl1]; exact hA6, k2, k3⟩
            case measure => simp [intOf]; omega
          · have b2 : ((xs : Int) == 2) = false := by rw [beq_eq_false_iff_ne]; omega
            have HSN : Hid (Pa.sizeL m.size (m.l.take (k + 1)) = sz) := by unfold Hid; rw [HK3.out.2.1, if_neg h2]
            clear h2
            go_wp2_with (first
              | ((with_reducible refine gate_load 99 ?_); refine wpList_load_mid rfl 99 _ rfl b (off + k * 4) rfl _ _ HMM.out Tryz.underlying99 rfl pg_size ?_)
              | ((with_reducible refine gate_store 99 ?_); refine wpList_store_row rfl 99 _ _ rfl wr.heap.size #[.int .i64 (xn : Nat), .int .i64 (xs : Nat), .int .u8 (xk : Nat), .slice xA xm xc] rfl rfl 99 _ (heap_alloc_new wr _) pg_size rfl rfl ?_
                 rw [World.setRow_alloc_new, hX])
              | ((with_reducible refine gate_load 99 ?_); refine wpList_load_row rfl 99 _ rfl wr.heap.size rfl 99 #[.int .i64 (xn : Nat), .int .i64 1, .int .u8 (xk : Nat), .slice xA xm xc] (0, 0) _ HY2R.out Tryz.underlying99 rfl pg_size ?_)
              | (at_builtin; go_must (refine wpList_push_l _ gK rfl _ _ rfl W.heap.size _ rfl us HO2.out rfl ⟨xn, 1, xk, xA, xm, xc⟩ HXN.out _ rfl _ rfl HUL2.out.1 HUL2.out.2 HY2S.out ?_; intro A6 c6 w6 hA6 hG6)))
            obtain ⟨k1, k2, k3⟩ := HREL.out A6 c6 w6 hA6 hG6
            go_roundw
            case rel =>
              have hl1 : (us ++ [(⟨xn, 1, xk, xA, xm, xc⟩ : RawP)]).length = us.length + 1 := by simp
              exact ⟨k + 1, A6, c6, _, sz, true, by omega, rfl, rfl, by rw [hl1], by go_num, HSN.out.symm, HTN.out.symm, k1, by rw [hl1]; exact hA6, k2, k3⟩
            case measure => simp [intOf]; omega
        | false =>
          obtain ⟨bp, hbp⟩ : ∃ b, ((xn : Int) == r.page) = b := ⟨_, rfl⟩
          have HTN : Hid (Pa.there (m.l.take (k + 1)) r.page = bp) := by unfold Hid; rw [HK3.out.2.2.1, ← hbp]; rfl
          by_cases h2 : xs = 2
          · have b2 : ((xs : Int) == 2) = true := by rw [h2]; rfl
            have HSN : Hid (Pa.sizeL m.size (m.l.take (k + 1)) = max sz ((xn + 1) * 512)) := by unfold Hid; rw [HK3.out.2.1, if_pos h2]
            clear h2
            go_wp2_with (first
              | ((with_reducible refine gate_load 99 ?_); refine wpList_load_mid rfl 99 _ rfl b (off + k * 4) rfl _ _ HMM.out Tryz.underlying99 rfl pg_size ?_)
              | ((with_reducible refine gate_store 99 ?_); refine wpList_store_row rfl 99 _ _ rfl wr.heap.size #[.int .i64 (xn : Nat), .int .i64 (xs : Nat), .int .u8 (xk : Nat), .slice xA xm xc] rfl rfl 99 _ (heap_alloc_new wr _) pg_size rfl rfl ?_
                 rw [World.setRow_alloc_new, hX])
              | ((with_reducible refine gate_load 99 ?_); refine wpList_load_row rfl 99 _ rfl wr.heap.size rfl 99 #[.int .i64 (xn : Nat), .int .i64 1, .int .u8 (xk : Nat), .slice xA xm xc] (0, 0) _ HY2R.out Tryz.underlying99 rfl pg_size ?_)
              | (at_builtin; go_must (refine wpList_push_l _ gK rfl _ _ rfl W.heap.size _ rfl us HO2.out rfl ⟨xn, 1, xk, xA, xm, xc⟩ HXN.out _ rfl _ rfl HUL2.out.1 HUL2.out.2 HY2S.out ?_; intro A6 c6 w6 hA6 hG6)))
            obtain ⟨k1, k2, k3⟩ := HREL.out A6 c6 w6 hA6 hG6
            go_roundw
            case rel =>
              have hl1 : (us ++ [(⟨xn, 1, xk, xA, xm, xc⟩ : RawP)]).length = us.length + 1 := by simp
              exact ⟨k + 1, A6, c6, _, max sz ((xn + 1) * 512), bp, by omega, by congr 1; first | (split <;> omega) | omega, rfl, by rw [hl1], by go_num, HSN.out.symm, HTN.out.symm, k1, by rw [hl1]; exact hA6, k2, k3⟩
            case measure => simp [intOf]; omega
          · have b2 : ((xs : Int) == 2) = false := by rw [beq_eq_false_iff_ne]; omega
            have HSN : Hid (Pa.sizeL m.size (m.l.take (k + 1)) = sz) := by unfold Hid; rw [HK3.out.2.1, if_neg h2]
            clear h2
            go_wp2_with (first
              | ((with_reducible refine gate_load 99 ?_); refine wpList_load_mid rfl 99 _ rfl b (off + k * 4) rfl _ _ HMM.out Tryz.underlying99 rfl pg_size ?_)
              | ((with_reducible refine gate_store 99 ?_); refine wpList_store_row rfl 99 _ _ rfl wr.heap.size #[.int .i64 (xn : Nat), .int .i64 (xs : Nat), .int .u8 (xk : Nat), .slice xA xm xc] rfl rfl 99 _ (heap_alloc_new wr _) pg_size rfl rfl ?_
                 rw [World.setRow_alloc_new, hX])
              | ((with_reducible refine gate_load 99 ?_); refine wpList_load_row rfl 99 _ rfl wr.heap.size rfl 99 #[.int .i64 (xn : Nat), .int .i64 1, .int .u8 (xk : Nat), .slice xA xm xc] (0, 0) _ HY2R.out Tryz.underlying99 rfl pg_size ?_)
              | (at_builtin; go_must (refine wpList_push_l _ gK rfl _ _ rfl W.heap.size _ rfl us HO2.out rfl ⟨xn, 1, xk, xA, xm, xc⟩ HXN.out _ rfl _ rfl HUL2.out.1 HUL2.out.2 HY2S.out ?_; intro A6 c6 w6 hA6 hG6)))
            obtain ⟨k1, k2, k3⟩ := HREL.out A6 c6 w6 hA6 hG6
            go_roundw
            case rel =>
              have hl1 : (us ++ [(⟨xn, 1, xk, xA, xm, xc⟩ : RawP)]).length = us.length + 1 := by simp
              exact ⟨k + 1, A6, c6, _, sz, bp, by omega, rfl, rfl, by rw [hl1], by go_num, HSN.out.symm, HTN.out.symm, k1, by rw [hl1]; exact hA6, k2, k3⟩
            case measure => simp [intOf]; omega
    · have h0 : k = m.l.length := by omega
      subst h0
      have hrootE : Pa.rootK m r (m.l.take m.l.length) = Pa.rootOf m r := by rw [List.take_length, Pa.rootK_all]
      have hrow := HRR.out
      rw [hrootE] at hrow
      have hszE : sz = Pa.sizeL m.size m.l := by have := HSIZ.out; rwa [List.take_length] at this
      have hthE : th = Pa.there m.l r.page := by have := HTH.out; rwa [List.take_length] at this
      have hU : PgsO wr R us (Pa.kept m.l) := by have := HU.out; rwa [List.take_length] at this
      have HU2 := Lib.hid hU
      have hn32 : ∀ x ∈ m.l, x.n < 1048576 := fun x hx => by
        obtain ⟨j, hj⟩ := List.getElem?_of_mem hx
        have hjl := (List.getElem?_eq_some_iff.1 hj).1
        obtain ⟨_, _, y, o, _, _, _, hy, hq, ho, _⟩ := hPr.at_ hjl
        rw [hj] at hq
        rw [Option.some.inj hq, ho.1]
        exact hy.1
      have hszl : sz < 1099511627776 := by rw [hszE]; exact Pa.sizeL_le hn32 _ HF.out.2
      have hpgl : I64 (Pa.pages m.l) := by
        unfold Pa.pages
        have gen : ∀ (l : List Pa.Page) (p : Int), (∀ x ∈ l, x.n < 1048576) → I64 p → I64 (l.foldl (fun p x => if x.state = 3 then p else (x.n : Int) + 1) p) := by
          intro l
          induction l with
          | nil => intro p _ hp; exact hp
          | cons x l ih =>
            intro p hx hp
            rw [List.foldl_cons]
            refine ih _ (fun y hy => hx y (by simp [hy])) ?_
            have := hx x (by simp)
            split
            · exact hp
            · unfold I64; omega
        exact gen m.l 2 hn32 (by unfold I64; omega)
      have HFIT : Hid (Rt.Fit (Pa.rootOf m r)) := by
        have h := HFR.out
        exact ⟨by show (m.root.seq + 1) % 18446744073709551616 < 18446744073709551616; omega, h.page, hpgl, h.lsn, h.next, h.shard, h.tail⟩
      have HATR := Lib.hid hatr
      have hDr : Rw wr w.heap.size 37 D := by rw [← HDD.out]; exact hatr
      have HDR := Lib.hid hDr
      have HZR : Hid (Rw wr (w.heap.size + 2) 37 Z) := (HTT.out.block _ (by have := HWS.out; omega) (by have := HWS.out; omega)).trans HZT.out
      have HROW := Lib.hid hrow
      have HSZL := Lib.hid hszl
      -- the answer, where nothing is done
      have HNO : Hid (∀ (w2 : World) (tmps : Array Value) (a : Pa.M × Nat) (e : Nat), a = (m, e) → Below wr.heap.size wr w2 → tmps.getD 6 undef = .pointer (some ⟨w.heap.size + 2, 0, none⟩) → tmps.getD 7 undef = .int .i64 (e : Nat) →
          bodyPost Tryz.prog Tryz.f24 (IsPaE R a w) Exit.ret ⟨tmps, []⟩ (w2.setRow (w.heap.size + 2) D)) := fun w2 tmps a e ha hbr h4 h5 => by
        subst ha
        have hzr := HZR.out.below hbr HZR.out.lt
        have hbw : Below w.heap.size w w2 := HBR.out.trans (hbr.mono HBR.out.size)
        have hT : Turned (fun k => w.heap.size ≤ k) w (w2.setRow (w.heap.size + 2) D) := Turned.of_below (below_setRow hbw (by omega) _)
        refine bodyPost_ret (v := .tuple #[.agg D, .int .i64 (e : Nat)]) (results_pa rfl _ _ (w.heap.size + 2) D _ _ h4 h5 HSD.out (Rw.row hzr D)) rfl ⟨_, rfl, ⟨A, c, by rw [← HDD.out], HF.out.1, HF.out.2, pgs_old HP0.out hT HRL.out⟩, below_setRow hbw (by omega) _⟩
      have HCM : Hid (Pa.commit m r free = if Pa.there m.l r.page = false ∨ ¬ Rt.May (Pa.rootOf m r) then (m, 2) else if free < (Pa.sizeL m.size m.l : Int) - m.size then (m, 9) else (⟨Pa.rootOf m r, Pa.kept m.l, Pa.sizeL m.size m.l⟩, 0)) := rfl
      have HTE := Lib.hid hthE
      have HSE := Lib.hid hszE
      clear hPr hU hn32 hszl hpgl hatr hDr hrow hrootE hszE hthE HU HRR HTH HSIZ hlt
      cases th with
      | false =>
        have HE : Hid (Pa.commit m r free = (m, 2)) := by unfold Hid; rw [HCM.out, if_pos (.inl HTE.out.symm)]
        go_wp2_with (first
          | ((with_reducible refine gate_load 37 ?_); refine wpList_load_row rfl 37 _ rfl w.heap.size rfl 37 D (0, 0) _ HDR.out Tryz.underlying37 rfl HSD.out ?_)
          | ((with_reducible refine gate_store 37 ?_); refine wpList_store_row rfl 37 _ _ rfl (w.heap.size + 2) D rfl rfl 37 _ HZR.out HSD.out HZC.out HOD.out ?_))
        exact HNO.out wr _ _ 2 HE.out (Below.refl _ _) rfl rfl
      | true =>
        obtain ⟨E2, hE2⟩ : ∃ D, rtC (Pa.rootOf m r) = D := ⟨_, rfl⟩
        have hE2s : (Tryz.prog.info? 34).map (·.size) = some E2.size := by rw [← hE2, rtC_size]; exact rt_size
        have HE2R : Hid (Rw wr (w.heap.size + 1) 34 E2) := by unfold Hid; rw [← hE2]; exact HROW.out
        have HMY := Lib.hid (rrtmay_any (Pa.rootOf m r) wr HFIT.out)
        rw [hE2] at HMY
        have HEE := Lib.hid hE2
        have hE2s' := Lib.hid hE2s
        obtain ⟨by', hby⟩ : ∃ b, decide (Rt.May (Pa.rootOf m r)) = b := ⟨_, rfl⟩
        rw [hby] at HMY
        have HBY := Lib.hid hby
        clear hE2 hE2s hby
        go_wp2_with ((with_reducible refine gate_loadG 34 ?_); refine wpList_load_row_onT (by rfl) 34 _ rfl (w.heap.size + 1) rfl 34 E2 (0, 0) _ HE2R.out Tryz.underlying34 rfl hE2s'.out ?_)
        refine HMY.out.mono ?_
        rintro e w2 ⟨rfl, b2⟩
        have HB2 := Lib.hid b2
        have HD2 : Hid (Rw w2 w.heap.size 37 D) := HDR.out.below b2 HDR.out.lt
        have HZ2 : Hid (Rw w2 (w.heap.size + 2) 37 Z) := HZR.out.below b2 HZR.out.lt
        have HE22 : Hid (Rw w2 (w.heap.size + 1) 34 E2) := HE2R.out.below b2 HE2R.out.lt
        have d8 : w2.cell? ⟨w.heap.size, 8, none⟩ = some (.int .i64 (m.size : Nat)) := (HATR.out.below b2 HATR.out.lt).cell 8
        clear b2 HMY
        cases by' with
        | false =>
          have HE : Hid (Pa.commit m r free = (m, 2)) := by unfold Hid; rw [HCM.out, if_pos (.inr (of_decide_eq_false HBY.out))]
          clear d8 c7
          go_wp2_with (first
            | ((with_reducible refine gate_load 37 ?_); refine wpList_load_row rfl 37 _ rfl w.heap.size rfl 37 D (0, 0) _ HD2.out Tryz.underlying37 rfl HSD.out ?_)
            | ((with_reducible refine gate_store 37 ?_); refine wpList_store_row rfl 37 _ _ rfl (w.heap.size + 2) D rfl rfl 37 _ HZ2.out HSD.out HZC.out HOD.out ?_))
          exact HNO.out w2 _ _ 2 HE.out HB2.out rfl rfl
        | true =>
          have hny : ¬ (Pa.there m.l r.page = false ∨ ¬ Rt.May (Pa.rootOf m r)) := by
            rintro (h | h)
            · have := HTE.out; rw [h] at this; cases this
            · exact h (of_decide_eq_true HBY.out)
          have HC2 : Hid (Pa.commit m r free = if free < (sz : Int) - m.size then (m, 9) else (⟨Pa.rootOf m r, Pa.kept m.l, sz⟩, 0)) := by unfold Hid; rw [HCM.out, if_neg hny, HSE.out]
          have wsub : IntKind.i64.wrap ((sz : Int) - (m.size : Int)) = (sz : Int) - (m.size : Int) := by have := HSZL.out; have := HF.out.2; rw [IntKind.wrap_i64]; omega
          clear hny c7
          by_cases hfr : free < (sz : Int) - (m.size : Int)
          · have HE : Hid (Pa.commit m r free = (m, 9)) := by unfold Hid; rw [HC2.out, if_pos hfr]
            go_wp2_with (first
              | ((with_reducible refine gate_load 37 ?_); refine wpList_load_row rfl 37 _ rfl w.heap.size rfl 37 D (0, 0) _ HD2.out Tryz.underlying37 rfl HSD.out ?_)
              | ((with_reducible refine gate_store 37 ?_); refine wpList_store_row rfl 37 _ _ rfl (w.heap.size + 2) D rfl rfl 37 _ HZ2.out HSD.out HZC.out HOD.out ?_))
            exact HNO.out w2 _ _ 9 HE.out HB2.out rfl rfl
          · have HE : Hid (Pa.commit m r free = (⟨Pa.rootOf m r, Pa.kept m.l, sz⟩, 0)) := by unfold Hid; rw [HC2.out, if_neg hfr]
            have HKP := HU2
            obtain ⟨C, hC⟩ : ∃ C, paC (Pa.rootOf m r) A2 us.length c2 sz = C := ⟨_, rfl⟩
            have hbt := pa_built (Pa.rootOf m r) A2 us.length c2 sz
            rw [hC] at hbt
            change Tryz.prog.built 37 [(0, .agg (rtC (Pa.rootOf m r))), _, _] = _ at hbt
            rw [HEE.out] at hbt
            have hsz := pa_size
            rw [← paC_size (Pa.rootOf m r) A2 us.length c2 sz] at hsz
            have hco := paC_one (Pa.rootOf m r) A2 us.length c2 sz
            have hzc9 : Z.size = (paC (Pa.rootOf m r) A2 us.length c2 sz).size := by rw [HZS.out, paC_size]
            rw [hC] at hsz hco hzc9
            have HCC := Lib.hid hC
            clear hC hz4
            go_wp2_with (first
              | ((with_reducible refine gate_load 34 ?_); refine wpList_load_row rfl 34 _ rfl (w.heap.size + 1) rfl 34 E2 (0, 0) _ HE22.out Tryz.underlying34 rfl hE2s'.out ?_)
              | ((with_reducible refine gate_build 37 ?_); refine wpList_build_atT rfl 37 _ rfl C (by simp only [List.map_toArray]; exact hbt) ?_)
              | ((with_reducible refine gate_store 37 ?_); refine wpList_store_row rfl 37 _ _ rfl (w.heap.size + 2) C rfl rfl 37 _ HZ2.out hsz hzc9 hco ?_))
            have hT2 : Turned (fun q => q = w.heap.size + 2 ∨ wr.heap.size ≤ q) wr (w2.setRow (w.heap.size + 2) C) := ((Turned.of_below HB2.out).mono (G := fun q => q = w.heap.size + 2 ∨ wr.heap.size ≤ q) (fun k _ h => Or.inr h)).setRow (fun _ => Or.inl rfl) _
            rw [HE.out]
            refine bodyPost_ret (v := .tuple #[.agg C, .int .i64 0]) (results_pa rfl _ _ (w.heap.size + 2) C _ _ rfl rfl hsz (Rw.row HZ2.out C)) rfl ⟨_, rfl, ⟨A2, c2, ?_, HFIT.out, HSZL.out, ?_⟩, below_setRow (HBR.out.trans (HB2.out.mono HBR.out.size)) (by omega) _⟩
            · rw [← HCC.out, HU2.out.1]
            · have hl2 : LvR gK wr (RX R w (w2.setRow (w.heap.size + 2) C)) (.slice A2 us.length c2) us := HO.out.lvr_ (fun q hq hlt => .inr ⟨Nat.le_trans HB.out.size hq, Nat.lt_of_lt_of_le hlt hT2.size⟩)
              show Pgs _ _ (.slice A2 (Pa.kept m.l).length c2) (Pa.kept m.l)
              rw [← HU2.out.1]
              refine ⟨us, HU2.out.1, ⟨(hl2.1.turnedB_ hT2 (fun hp q hq hf => ?_)).mono_ hT2.size, hl2.2⟩, fun j x o hx ho => ((HU2.out.2 j x o hx ho).turned_ hT2 (fun q hq hf => ?_)).more_ (fun q hq => .inl hq)⟩
              · have h1 := HO.out.lt_ q hq
                have := HWS.out
                omega
              · have h1 := HRL.out q hq
                have := HBR.out.size
                omega
end Go.Proofs.YtiafeniflkikeaaGreat
namespace Go.Proofs.YtiafeniflkikeaaGreat
open Go.RowKit
set_option linter.unusedVariables false
namespace Pa
def placeOf (n : Int) : Int := if n < 0 then -(n + 1) else n
def number (l : List Page) (a : Act) : Int := if a.any = true ∨ l = [] then a.n else (l.getD (placeOf a.n % (l.length : Int)).toNat ⟨0, 0, 0, []⟩).n
end Pa
set_option maxHeartbeats 1500000 in
set_option maxRecDepth 100000 in
theorem pnumber_any (R : Nat → Prop) (v : Value) (m : Pa.M) (x : RawT) (a : Pa.Act) (w : World) (h : PaIs w R v m) (hl : m.l.length ≤ 1000000) (ha : a.n = x.n ∧ a.any = x.any) (hx : I64 x.n) :
  Calls Tryz.prog 21 #[v, .agg (actC x)] w (fun e w' => e = .returned (.int .i64 (Pa.number m.l a)) ∧ Below w.heap.size w w') := by
 obtain ⟨A, c, rfl, hf, hs, hp⟩ := h
 obtain ⟨D, hD⟩ : ∃ D, paC m.root A m.l.length c m.size = D := ⟨_, rfl⟩
 obtain ⟨E, hE⟩ : ∃ D, actC x = D := ⟨_, rfl⟩
 obtain ⟨W, hW⟩ : ∃ W, (w.alloc (.cells D 37)).alloc (.cells E 42) = W := ⟨_, rfl⟩
 have hat : Rw W w.heap.size 37 (paC m.root A m.l.length c m.size) := by rw [← hW, hD]; exact (Rw.new w _ _).old _
 have hac : Rw W (w.heap.size + 1) 42 (actC x) := by rw [← hW, hE]; exact Rw.at_ (by simp) _ _
 have hb : Below w.heap.size w W := by rw [← hW]; exact ((Below.refl _ _).alloc (Nat.le_refl _) _).alloc (by simp) _
 have c7 : W.cell? ⟨w.heap.size, 7, none⟩ = some (.slice A m.l.length c) := hat.cell 7
 have a1 : W.cell? ⟨w.heap.size + 1, 1, none⟩ = some (.int .i64 x.n) := hac.cell 1
 have a2 : W.cell? ⟨w.heap.size + 1, 2, none⟩ = some (.bool x.any) := hac.cell 2
 have HB := Lib.hid hb
 have HP := Lib.hid (hp.below_ hb)
 have HL := Lib.hid hl
 have HN : Hid (Pa.number m.l a = if x.any = true ∨ m.l = [] then x.n else (m.l.getD (Pa.placeOf x.n % (m.l.length : Int)).toNat ⟨0, 0, 0, []⟩).n) := by unfold Hid Pa.number; rw [ha.1, ha.2]
 have hlc : m.l.length ≤ 9223372036854775807 := by omega
 have hxn := hx
 unfold I64 at hxn
 obtain ⟨xn, hxx⟩ : ∃ z, x.n = z := ⟨_, rfl⟩
 obtain ⟨xa, hxa⟩ : ∃ z, x.any = z := ⟨_, rfl⟩
 rw [hxx] at a1 HN hxn
 rw [hxa] at a2 HN
 rw [hD, hE]
 clear hat hac hb hp hD hE hf hs hl ha hx hxx hxa
 cases xa with
 | true =>
  have HE : Hid (Pa.number m.l a = xn) := by unfold Hid; rw [HN.out, if_pos (.inl rfl)]
  go_enter Tryz.func21, Tryz.ntmps21
  go_wp2
  go_ret
  exact ⟨by rw [HE.out]; rfl, HB.out⟩
 | false =>
  by_cases h0 : m.l.length = 0
  ·have HE : Hid (Pa.number m.l a = xn) := by unfold Hid; rw [HN.out, if_pos (.inr (List.eq_nil_of_length_eq_zero h0))]
   have b0 : ((m.l.length : Int) == 0) = true := by rw [h0]; rfl
   clear h0
   go_enter Tryz.func21, Tryz.ntmps21
   go_wp2
   go_ret
   exact ⟨by rw [HE.out]; rfl, HB.out⟩
  ·have b0 : ((m.l.length : Int) == 0) = false := by rw [beq_eq_false_iff_ne]; omega
   have hne : m.l ≠ [] := fun e => h0 (by rw [e]; rfl)
   obtain ⟨p, hpl⟩ : ∃ p : Nat, Pa.placeOf xn = (p : Int) := ⟨(Pa.placeOf xn).toNat, by unfold Pa.placeOf; split <;> omega⟩
   obtain ⟨i, hi⟩ : ∃ i : Nat, p % m.l.length = i := ⟨_, rfl⟩
   have hil : i < m.l.length := by rw [← hi]; exact Nat.mod_lt _ (by omega)
   obtain ⟨b, off, y, q, hA, hbl, hRb, hyo, hq, ho, hm⟩ := HP.out.at_ hil
   subst hA
   have e0 : W.cell? ⟨b, off + i * 4, none⟩ = some (.int .i64 (y.n : Nat)) := hm 0 _ rfl
   have HE : Hid (Pa.number m.l a = (y.n : Nat)) := by
    unfold Hid
    rw [HN.out, if_neg (by simp [hne]), hpl]
    have e : ((p : Int) % (m.l.length : Int)).toNat = i := by omega
    rw [e, List.getD_eq_getElem?_getD, hq]
    show ((q.n : Nat) : Int) = _
    rw [ho.1]
   have hp63 : (p : Int) ≤ 9223372036854775807 := by rw [← hpl]; unfold Pa.placeOf; split <;> omega
   have g4 : Int.tmod (p : Int) (m.l.length : Int) = (i : Int) := by rw [Int.tmod_eq_emod_of_nonneg (by omega)]; omega
   have i1 : (0 : Int) ≤ (i : Int) := by omega
   have i2 : (i : Int) < (m.l.length : Int) := by omega
   have nz : ¬ (m.l.length : Int) = 0 := by omega
   have g5 : wrap64 (i : Int) = (i : Int) := by unfold wrap64; omega
   have g6 : IntKind.i64.wrap (i : Int) = (i : Int) := by rw [IntKind.wrap_i64]; omega
   clear hm ho hq hyo hRb hbl hne h0
   by_cases hneg : xn < 0
   ·have hpe : -(xn + 1) = (p : Int) := by have := hpl; unfold Pa.placeOf at this; rwa [if_pos hneg] at this
    have w1 : IntKind.i64.wrap (xn + 1) = xn + 1 := by rw [IntKind.wrap_i64]; omega
    have w2 : IntKind.i64.wrap (-(xn + 1)) = (p : Int) := by rw [hpe, IntKind.wrap_i64]; omega
    clear hpl hil
    go_enter Tryz.func21, Tryz.ntmps21
    go_wp2
    clear hpe w1 w2 hneg hi
    go_quiet (fail)
    generalize hW9 : W.drewN _ = w9
    have HB9 : Hid (Below w.heap.size w w9) := by unfold Hid; rw [← hW9]; exact below_drewN HB.out _
    clear hW9
    go_wp2
    go_ret
    exact ⟨by rw [HE.out]; rfl, HB9.out⟩
   ·have hpe : xn = (p : Int) := by have := hpl; unfold Pa.placeOf at this; rwa [if_neg hneg] at this
    subst hpe
    clear hpl hil
    go_enter Tryz.func21, Tryz.ntmps21
    go_wp2
    clear hneg hi
    go_quiet (fail)
    generalize hW9 : W.drewN _ = w9
    have HB9 : Hid (Below w.heap.size w w9) := by unfold Hid; rw [← hW9]; exact below_drewN HB.out _
    clear hW9
    go_wp2
    go_ret
    exact ⟨by rw [HE.out]; rfl, HB9.out⟩
end Go.Proofs.YtiafeniflkikeaaGreat
