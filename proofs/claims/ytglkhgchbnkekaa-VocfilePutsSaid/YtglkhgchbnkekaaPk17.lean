/-
  RVoB: stookref08.seen.join.
  RVoC: stookref08.Sizes, Check, May.
  RVoD: stookref08.Check, May, bytes, Expand, token, Byte; stookref00.Many.
-/
import Derived.Test.YtglkhgchbnkekaaPk16
import Derived.Test.YtglkhgchbnkekaaPk05
namespace Go.Proofs.Ytglkhgchbnkekaa
open Go.RowKit
set_option linter.unusedVariables false

namespace Vo
/-- Is q a join of the same two, or of that rank? -/
def twin (p q : Pc) : Bool := q.join && ((q.left == p.left && q.right == p.right) || q.rank == p.rank)
theorem hasJoin_snoc {P : List Pc} {i : Nat} {p q : Pc} (h : P[i]? = some q) : hasJoin (P.take (i + 1)) p = (hasJoin (P.take i) p || twin p q) := by
  unfold hasJoin
  rw [take_snoc h, List.any_append]
  simp [twin]
theorem hasJoin_mem {P : List Pc} {i k : Nat} {p q : Pc} (h : P[i]? = some q) (hi : i < k) (ht : twin p q = true) : hasJoin (P.take k) p = true := by
  unfold hasJoin
  rw [List.any_eq_true]
  refine ⟨q, List.mem_of_getElem? (i := i) (by rw [List.getElem?_take, if_pos hi]; exact h), ht⟩
theorem sizes_at {D : List Pc} {t : Nat} (ht : t < D.length) : (sizes D)[t]? = some ((text D t).length : Int) := by
  unfold sizes text
  rw [List.getElem?_map, List.getD_eq_getElem?_getD, List.getElem?_eq_getElem (by rw [texts_len]; exact ht)]
  rfl
theorem tx_join {D : List Pc} {p : Pc} (hj : p.join = true) : tx (texts D) p = text D p.left.toNat ++ text D p.right.toNat := by
  unfold tx text
  rw [if_pos hj]
theorem errAt_five {D : List Pc} {p : Pc} (hj : p.join = true) (h : p.byte ≠ 0) : errAt D p = 5 := by unfold errAt; rw [if_pos hj, if_pos h]
theorem errAt_two {D : List Pc} {p : Pc} (hj : p.join = true) (h : p.byte = 0) (h2 : p.left < 0 ∨ (D.length : Int) ≤ p.left ∨ p.right < 0 ∨ (D.length : Int) ≤ p.right) : errAt D p = 2 := by
  unfold errAt; rw [if_pos hj, if_neg (by simpa using h), if_pos h2]
theorem errAt_rest {D : List Pc} {p : Pc} (hj : p.join = true) (h : p.byte = 0) (h2 : ¬ (p.left < 0 ∨ (D.length : Int) ≤ p.left ∨ p.right < 0 ∨ (D.length : Int) ≤ p.right)) :
    errAt D p = if 256 < (tx (texts D) p).length then 3 else if hasJoin D p = true then 8 else 0 := by
  unfold errAt; rw [if_pos hj, if_neg (by simpa using h), if_neg h2]
end Vo

theorem SeenR.below_ {w w' : World} {sb base m : Nat} {v : Value} {sz : List Int} {bs : List Bool} (h : SeenR w sb base v sz bs m) (hb : Below w.heap.size w w') : SeenR w' sb base v sz bs m :=
  ⟨(hb.block sb h.lt_).trans h.head, h.len, h.own.below_ hb (Nat.le_refl _), h.apart, h.low⟩

set_option maxRecDepth 100000 in
set_option maxHeartbeats 4000000 in
theorem rsjoin_any (sb base B : Nat) (P : List Vo.Pc) (k : Nat) (p : Vo.Pc) (v : Value) (w : World) (hv : Lv pK w B v P) (hB : B ≤ base) (hk : P[k]? = some p) (hj : p.join = true) (hP : P.length ≤ 4096) (hG : Vo.Good (P.take k)) (hb : base ≤ w.heap.size) (h : SeenAt w sb base (P.take k)) :
    Calls Try.prog 64 #[.pointer (some ⟨sb, 0, none⟩), .agg #[v], .int .i64 (k : Nat)] w (IsSeen sb base (P.take k) p w) := by
  have hkl : k < P.length := (List.getElem?_eq_some_iff.1 hk).1
  have hv0 := hv
  obtain ⟨A, c, rfl, _, _, _⟩ := hv
  obtain ⟨b, off, p', rfl, hbB, hpok, hp', c0, c1, c2, c3, c4⟩ := hv0.piece_ hkl
  rw [hk] at hp'
  obtain rfl := Option.some.inj hp'
  have HPOK := Lib.hid hpok
  obtain ⟨hpb, hpl, hpr, hpk⟩ := hpok
  obtain ⟨x, hx⟩ := h
  have hDl : (P.take k).length = k := by rw [List.length_take]; omega
  obtain ⟨A2, cx, rfl, _⟩ := hx.own.form_
  rw [Vo.sizes_len, hDl] at hx
  obtain ⟨xj, xb, xl, xr, xk⟩ := p
  simp only at hj hpb hpl hpr hpk c0 c1 c2 c3 c4
  subst hj
  have hkn : (k : Int) < (P.length : Int) := by omega
  have hbw : b < w.heap.size := by omega
  have hkc : (k : Int) < 4096 := by omega
  -- the two boxes
  obtain ⟨W, hW⟩ : ∃ W, (w.alloc (.cells #[.slice (some ⟨b, off, none⟩) P.length c] 24)).alloc (.cells #[.bool true, .int .u8 (xb : Nat), .int .i64 xl, .int .i64 xr, .int .u32 (xk : Nat)] 45) = W := ⟨_, rfl⟩
  have d0 : W.cell? ⟨w.heap.size, 0, none⟩ = some (.slice (some ⟨b, off, none⟩) P.length c) := by
    rw [← hW, cell_of_row _ w.heap.size 0 _ _ _ ((heap_alloc_old _ _ (by simp)).trans (heap_alloc_new w _))]; rfl
  have hcell : ∀ (i : Nat) (u : Value), #[.bool true, .int .u8 (xb : Nat), .int .i64 xl, .int .i64 xr, .int .u32 (xk : Nat)][i]? = some u → W.cell? ⟨w.heap.size + 1, i, none⟩ = some u := fun i u hi => by
    have e : (w.alloc (.cells #[.slice (some ⟨b, off, none⟩) P.length c] 24)).heap.size = w.heap.size + 1 := by simp
    rw [← hW, ← e, cell_of_row _ _ i _ _ _ (heap_alloc_new _ _)]
    exact hi
  have e1 := hcell 1 _ rfl
  have e2 := hcell 2 _ rfl
  have e3 := hcell 3 _ rfl
  have e4 := hcell 4 _ rfl
  clear hcell
  have HXW : Hid (SeenR W sb base (.slice A2 k cx) (Vo.sizes (P.take k)) (Vo.bits (P.take k)) (Vo.bytesOf (P.take k))) := by unfold Hid; rw [← hW]; exact (hx.alloc_ _).alloc_ _
  have HBW : Hid (Below base w W) := by unfold Hid; rw [← hW]; exact ((Below.refl _ _).alloc hb _).alloc (by simp; omega) _
  have HVW : Hid (Lv pK W B (.slice (some ⟨b, off, none⟩) P.length c) P) := by unfold Hid; exact hv0.below_ HBW.out hB
  have hsz : W.heap.size = w.heap.size + 2 := by rw [← hW]; simp
  have HSZ := Lib.hid hsz
  have HH := Lib.hid hx
  clear hx hsz
  by_cases hbyte : xb = 0
  · subst hbyte
    have hW0 : (w.alloc (.cells #[.slice (some ⟨b, off, none⟩) P.length c] 24)).alloc (.cells #[.bool true, .int .u8 0, .int .i64 xl, .int .i64 xr, .int .u32 (xk : Nat)] 45) = W := hW
    have c10 : w.cell? ⟨b, off + k * 5 + 1, none⟩ = some (.int .u8 0) := c1
    have e10 : W.cell? ⟨w.heap.size + 1, 1, none⟩ = some (.int .u8 0) := e1
    clear hW c1 e1
    by_cases hbad : xl < 0 ∨ (k : Int) ≤ xl ∨ xr < 0 ∨ (k : Int) ≤ xr
    · have fin : IsSeen sb base (P.take k) ⟨true, 0, xl, xr, xk⟩ w (.returned (.int .i64 2)) W := IsSeen.bad (Vo.errAt_two rfl rfl (by rw [hDl]; exact hbad)) (by decide) rfl ⟨_, HXW.out⟩ HBW.out
      have FIN := Lib.hid fin
      clear fin
      rcases Decidable.em (xl < 0) with h1 | h1
      · clear hbad
        go_enter Try.func64, Try.ntmps64
        go_wp2
        go_ret
        exact FIN.out
      · rcases Decidable.em ((k : Int) ≤ xl) with h2 | h2
        · clear hbad
          go_enter Try.func64, Try.ntmps64
          go_wp2
          go_ret
          exact FIN.out
        · rcases Decidable.em (xr < 0) with h3 | h3
          · clear hbad
            go_enter Try.func64, Try.ntmps64
            go_wp2
            go_ret
            exact FIN.out
          · have h4 : (k : Int) ≤ xr := by omega
            clear hbad
            go_enter Try.func64, Try.ntmps64
            go_wp2
            go_ret
            exact FIN.out
    · have HE := Lib.hid (Vo.errAt_rest (D := P.take k) (p := ⟨true, 0, xl, xr, xk⟩) rfl rfl (by rw [hDl]; exact hbad))
      obtain ⟨L, rfl⟩ := Int.eq_ofNat_of_zero_le (show 0 ≤ xl by omega)
      obtain ⟨R, rfl⟩ := Int.eq_ofNat_of_zero_le (show 0 ≤ xr by omega)
      have hL : L < k := by omega
      have hR : R < k := by omega
      have hLi : (L : Int) < (k : Int) := by omega
      have hRi : (R : Int) < (k : Int) := by omega
      clear hbad
      have hzl := Vo.sizes_at (D := P.take k) (t := L) (by omega)
      have hzr := Vo.sizes_at (D := P.take k) (t := R) (by omega)
      have htl := Vo.text_size hG (t := L) (by omega)
      have htr := Vo.text_size hG (t := R) (by omega)
      have htx : (Vo.tx (Vo.texts (P.take k)) ⟨true, 0, (L : Int), (R : Int), xk⟩).length = (Vo.text (P.take k) L).length + (Vo.text (P.take k) R).length := by
        rw [Vo.tx_join rfl, List.length_append]; simp
      rw [htx] at HE
      have HTX := Lib.hid htx
      clear htx
      obtain ⟨sl, hsl⟩ : ∃ n, (Vo.text (P.take k) L).length = n := ⟨_, rfl⟩
      obtain ⟨sr, hsr⟩ : ∃ n, (Vo.text (P.take k) R).length = n := ⟨_, rfl⟩
      rw [hsl] at hzl htl HE HTX
      rw [hsr] at hzr htr HE HTX
      obtain ⟨g, y1, rfl, -, -, -, hy1, hs1, -⟩ := HXW.out.own.int_ (k := L) (by rw [Vo.sizes_len]; omega)
      rw [hzl] at hy1
      obtain rfl := Option.some.inj hy1
      obtain ⟨y2, hy2, hs2⟩ := HXW.out.own.was_ (k := R) (by rw [Vo.sizes_len]; omega)
      rw [hzr] at hy2
      obtain rfl := Option.some.inj hy2
      have hsb := HXW.out.slice_
      clear hzl hzr hy1 hy2 hsl hsr
      by_cases hbig : 256 < sl + sr
      · have HX : Hid (Vo.errAt (P.take k) ⟨true, 0, (L : Int), (R : Int), xk⟩ = 3) := by unfold Hid; rw [HE.out, if_pos hbig]
        have hbi : (256 : Int) < (sl : Int) + (sr : Int) := by omega
        clear hbig
        go_enter Try.func64, Try.ntmps64
        go_wp2
        go_quiet (fail)
        go_wp2
        go_ret
        exact IsSeen.bad HX.out (by decide) rfl ⟨_, HXW.out.drewN_ _⟩ (below_drewN HBW.out _)
      · rw [if_neg hbig] at HE
        have hbi : ¬ (256 : Int) < (sl : Int) + (sr : Int) := by omega
        clear hbig
        go_enter Try.func64, Try.ntmps64
        go_wp2
        go_quiet (fail)
        generalize hW9 : W.drewN _ = w9
        have HX9 : Hid (SeenR w9 sb base (.slice (some ⟨g, 0, none⟩) k cx) (Vo.sizes (P.take k)) (Vo.bits (P.take k)) (Vo.bytesOf (P.take k))) := by unfold Hid; rw [← hW9]; exact HXW.out.drewN_ _
        have HB9 : Hid (Below base w w9) := by unfold Hid; rw [← hW9]; exact below_drewN HBW.out _
        have hsz9 : w9.heap.size = w.heap.size + 2 := by rw [← hW9]; exact HSZ.out
        have f0 : w9.cell? ⟨w.heap.size, 0, none⟩ = some (.slice (some ⟨b, off, none⟩) P.length c) := by rw [← hW9]; exact d0
        have f2 : w9.cell? ⟨w.heap.size + 1, 2, none⟩ = some (.int .i64 (L : Nat)) := by rw [← hW9]; exact e2
        have f3 : w9.cell? ⟨w.heap.size + 1, 3, none⟩ = some (.int .i64 (R : Nat)) := by rw [← hW9]; exact e3
        have f4 : w9.cell? ⟨w.heap.size + 1, 4, none⟩ = some (.int .u32 (xk : Nat)) := by rw [← hW9]; exact e4
        have HSZ9 := Lib.hid hsz9
        clear hW9 hsz9 d0 e10 e2 e3 e4 hs1 hs2 hsb c0 c10 c2 c3 c4 hW0 HXW HBW HVW HSZ
        go_wp2
        go_loopw [9] (fun s wr => ∃ i : Nat, i ≤ k ∧ s = .int .i64 i ∧ Hid (Vo.hasJoin (P.take i) ⟨true, 0, (L : Int), (R : Int), xk⟩ = false) ∧ Below w9.heap.size w9 wr) (fun s _ => k - (intOf s).toNat)
        case atStart => exact ⟨0, by omega, rfl, rfl, Below.refl _ _⟩
        case round =>
          obtain ⟨i, hi, rfl, HJ, hbr⟩ := hrel
          have hbs := HSZ9.out
          have HBr := Lib.hid hbr
          have HBw := Lib.hid (HB9.out.trans (hbr.mono (Nat.le_trans hb HB9.out.size)))
          have g0 : wr.cell? ⟨w.heap.size, 0, none⟩ = some (.slice (some ⟨b, off, none⟩) P.length c) := (hbr.cell (p := ⟨w.heap.size, 0, none⟩) (by show w.heap.size < _; omega)).trans f0
          have g2 : wr.cell? ⟨w.heap.size + 1, 2, none⟩ = some (.int .i64 (L : Nat)) := (hbr.cell (p := ⟨w.heap.size + 1, 2, none⟩) (by show w.heap.size + 1 < _; omega)).trans f2
          have g3 : wr.cell? ⟨w.heap.size + 1, 3, none⟩ = some (.int .i64 (R : Nat)) := (hbr.cell (p := ⟨w.heap.size + 1, 3, none⟩) (by show w.heap.size + 1 < _; omega)).trans f3
          have g4 : wr.cell? ⟨w.heap.size + 1, 4, none⟩ = some (.int .u32 (xk : Nat)) := (hbr.cell (p := ⟨w.heap.size + 1, 4, none⟩) (by show w.heap.size + 1 < _; omega)).trans f4
          have hwr : w.heap.size + 2 ≤ wr.heap.size := by have := hbr.size; omega
          have HXr : Hid (SeenR wr sb base (.slice (some ⟨g, 0, none⟩) k cx) (Vo.sizes (P.take k)) (Vo.bits (P.take k)) (Vo.bytesOf (P.take k))) := HX9.out.below_ hbr
          clear f0 f2 f3 f4 HX9 hbr
          by_cases hik : i < k
          · obtain ⟨b', off', q, e, _, hqok, hq, q0, q1, q2, q3, q4⟩ := (hv0.below_ HBw.out hB).piece_ (k := i) (by omega)
            obtain ⟨rfl, rfl⟩ : b = b' ∧ off = off' := by injection e with e; injection e with e1 e2; exact ⟨e1, e2⟩
            obtain ⟨qj, qb, ql, qr, qk⟩ := q
            simp only at q0 q1 q2 q3 q4
            have hii : (i : Int) < (P.length : Int) := by omega
            have hiki : (i : Int) < (k : Int) := by omega
            have HS := Lib.hid (Vo.hasJoin_snoc (p := ⟨true, 0, (L : Int), (R : Int), xk⟩) hq)
            have HM := Lib.hid (fun h => Vo.hasJoin_mem (k := k) (p := ⟨true, 0, (L : Int), (R : Int), xk⟩) hq hik h)
            have HK : Hid (i + 1 ≤ k) := hik
            -- q's box
            obtain ⟨W3, hW3⟩ : ∃ W3, wr.alloc (.cells #[.bool qj, .int .u8 (qb : Nat), .int .i64 ql, .int .i64 qr, .int .u32 (qk : Nat)] 45) = W3 := ⟨_, rfl⟩
            have HB3 : Hid (Below w9.heap.size w9 W3) := by unfold Hid; rw [← hW3]; exact HBr.out.alloc HBr.out.size _
            have HX3 : Hid (SeenR W3 sb base (.slice (some ⟨g, 0, none⟩) k cx) (Vo.sizes (P.take k)) (Vo.bits (P.take k)) (Vo.bytesOf (P.take k))) := by unfold Hid; rw [← hW3]; exact HXr.out.alloc_ _
            have HBw3 : Hid (Below base w W3) := by unfold Hid; rw [← hW3]; exact HBw.out.alloc (Nat.le_trans hb HBw.out.size) _
            have hcell : ∀ (j : Nat) (u : Value), #[.bool qj, .int .u8 (qb : Nat), .int .i64 ql, .int .i64 qr, .int .u32 (qk : Nat)][j]? = some u → W3.cell? ⟨wr.heap.size, j, none⟩ = some u := fun j u hj => by
              rw [← hW3, cell_of_row _ wr.heap.size j _ _ _ (heap_alloc_new wr _)]
              exact hj
            have k0 := hcell 0 _ rfl
            have k2 := hcell 2 _ rfl
            have k3 := hcell 3 _ rfl
            have k4 := hcell 4 _ rfl
            have g2' : W3.cell? ⟨w.heap.size + 1, 2, none⟩ = some (.int .i64 (L : Nat)) := by rw [← hW3, ← g2]; exact World.cell?_alloc_past _ _ _ (by show w.heap.size + 1 < _; omega)
            have g3' : W3.cell? ⟨w.heap.size + 1, 3, none⟩ = some (.int .i64 (R : Nat)) := by rw [← hW3, ← g3]; exact World.cell?_alloc_past _ _ _ (by show w.heap.size + 1 < _; omega)
            have g4' : W3.cell? ⟨w.heap.size + 1, 4, none⟩ = some (.int .u32 (xk : Nat)) := by rw [← hW3, ← g4]; exact World.cell?_alloc_past _ _ _ (by show w.heap.size + 1 < _; omega)
            clear hcell hq hik hqok e
            cases qj with
            | false =>
              have HJ2 : Hid (Vo.hasJoin (P.take (i + 1)) ⟨true, 0, (L : Int), (R : Int), xk⟩ = false) := by unfold Hid; rw [HS.out, HJ.out]; simp [Vo.twin, *]
              clear HM HS
              go_wp2
              go_roundw
              case rel => exact ⟨i + 1, HK.out, by go_num, HJ2.out, HB3.out⟩
              case measure => simp [intOf]; omega
            | true =>
              by_cases h1 : ql = (L : Int)
              · subst h1
                by_cases h2 : qr = (R : Int)
                · subst h2
                  have HX : Hid (Vo.errAt (P.take k) ⟨true, 0, (L : Int), (R : Int), xk⟩ = 8) := by unfold Hid; rw [HE.out, if_pos (HM.out (by simp [Vo.twin, *]))]
                  clear HM HS
                  go_wp2
                  go_ret
                  exact IsSeen.bad HX.out (by decide) rfl ⟨_, HX3.out⟩ HBw3.out
                · have h2b : (qr == (R : Int)) = false := by rw [beq_eq_false_iff_ne]; exact h2
                  by_cases h3 : qk = xk
                  · obtain rfl := h3.symm
                    clear h2
                    have HX : Hid (Vo.errAt (P.take k) ⟨true, 0, (L : Int), (R : Int), xk⟩ = 8) := by unfold Hid; rw [HE.out, if_pos (HM.out (by simp [Vo.twin, *]))]
                    clear HM HS
                    go_wp2
                    go_ret
                    exact IsSeen.bad HX.out (by decide) rfl ⟨_, HX3.out⟩ HBw3.out
                  · have h3b : ((qk : Int) == (xk : Int)) = false := by rw [beq_eq_false_iff_ne]; omega
                    have h3c : (qk == xk) = false := by rw [beq_eq_false_iff_ne]; exact h3
                    clear h2 h3
                    have HJ2 : Hid (Vo.hasJoin (P.take (i + 1)) ⟨true, 0, (L : Int), (R : Int), xk⟩ = false) := by unfold Hid; rw [HS.out, HJ.out]; simp [Vo.twin, *]
                    clear HM HS
                    go_wp2
                    go_roundw
                    case rel => exact ⟨i + 1, HK.out, by go_num, HJ2.out, HB3.out⟩
                    case measure => simp [intOf]; omega
              · have h1b : (ql == (L : Int)) = false := by rw [beq_eq_false_iff_ne]; exact h1
                by_cases h3 : qk = xk
                · obtain rfl := h3.symm
                  clear h1
                  have HX : Hid (Vo.errAt (P.take k) ⟨true, 0, (L : Int), (R : Int), xk⟩ = 8) := by unfold Hid; rw [HE.out, if_pos (HM.out (by simp [Vo.twin, *]))]
                  clear HM HS
                  go_wp2
                  go_ret
                  exact IsSeen.bad HX.out (by decide) rfl ⟨_, HX3.out⟩ HBw3.out
                · have h3b : ((qk : Int) == (xk : Int)) = false := by rw [beq_eq_false_iff_ne]; omega
                  have h3c : (qk == xk) = false := by rw [beq_eq_false_iff_ne]; exact h3
                  clear h1 h3
                  have HJ2 : Hid (Vo.hasJoin (P.take (i + 1)) ⟨true, 0, (L : Int), (R : Int), xk⟩ = false) := by unfold Hid; rw [HS.out, HJ.out]; simp [Vo.twin, *]
                  clear HM HS
                  go_wp2
                  go_roundw
                  case rel => exact ⟨i + 1, HK.out, by go_num, HJ2.out, HB3.out⟩
                  case measure => simp [intOf]; omega
          · obtain rfl : i = k := by omega
            have hki : ¬ (i : Int) < (i : Int) := by omega
            have HX : Hid (Vo.errAt (P.take i) ⟨true, 0, (L : Int), (R : Int), xk⟩ = 0) := by unfold Hid; rw [HE.out, if_neg (by rw [HJ.out]; simp)]
            have hc0 := HXr.out.slice_
            have hI : I64 ((sl : Int) + (sr : Int)) := by unfold I64; omega
            have HL : Hid ((Vo.sizes (P.take i)).length = i) := by unfold Hid; rw [Vo.sizes_len]; exact hDl
            have hb3 : base ≤ wr.heap.size := Nat.le_trans hb HBw.out.size
            go_wp2_with (at_builtin; go_must (refine wpList_push_m _ iK rfl _ _ rfl base _ rfl (Vo.sizes (P.take i)) HXr.out.own rfl ((sl : Int) + (sr : Int)) hI _ rfl _ rfl (by rw [HL.out]; show _ * 8 ≤ _; omega) (by rw [HL.out]; simp only [maxLen]; omega) hb3 ?_; intro A3 c3 w4 hA hG hM; have hc4 := (HXr.out.grown_ hG).1; have hf4 := (HXr.out.grown_ hG).2))
            have HS5 := HXr.out.setSlice_ hG hA hM
            have HB5 := (HBw.out.grown hG hb3 (fun k hk => (HXr.out.own.lt_ k hk).1)).setCell (p := ⟨sb, 0, none⟩) HXr.out.low (.slice A3 (i + 1) c3)
            rw [HL.out] at HS5 ⊢
            have HS6 := Lib.hid HS5
            have HB6 := Lib.hid HB5
            clear HS5 HB5 hA hG hM hc4 hf4
            go_wp2
            go_ret
            refine ⟨by rw [HX.out]; rfl, ?_, HB6.out⟩
            rw [HX.out, if_pos rfl]
            refine ⟨.slice A3 (i + 1) c3, ?_⟩
            rw [Vo.sizes_snoc, HTX.out, Vo.bits_join rfl, Vo.bytesOf_join rfl]
            exact HS6.out
  · have hxb : ((xb : Int) != 0) = true := by rw [bne_iff_ne]; omega
    have FIN := Lib.hid (show IsSeen sb base (P.take k) ⟨true, xb, xl, xr, xk⟩ w (.returned (.int .i64 5)) W from IsSeen.bad (Vo.errAt_five rfl hbyte) (by decide) rfl ⟨_, HXW.out⟩ HBW.out)
    clear hbyte
    go_enter Try.func64, Try.ntmps64
    go_wp2
    go_ret
    exact FIN.out
end Go.Proofs.Ytglkhgchbnkekaa
namespace Go.Proofs.Ytglkhgchbnkekaa
open Go.RowKit
set_option linter.unusedVariables false

/-- What Sizes answers (the sizes themselves are told by nobody). -/
def IsSizes (P : List Vo.Pc) (w : World) (e : Ending) (w' : World) : Prop :=
  ∃ u, e = .returned (.tuple #[u, .int .i64 ((Vo.check P).1 : Nat), .int .i64 ((Vo.check P).2 : Nat)]) ∧ Below w.heap.size w w'

theorem seen_zero : Try.zeroCells103 = (seenCells (.slice none 0 0) (List.replicate 256 false) 0).toArray := by kernel_rfl
namespace Vo
theorem check_scan {P : List Pc} (h : ¬ 4096 < P.length) {e k : Nat} (hs : scan [] P = (e, k)) (he : e ≠ 0) : check P = (e, k) := by
  unfold check
  rw [if_neg h, if_pos (by rw [hs]; exact he), hs]
theorem check_good {P : List Pc} (h : ¬ 4096 < P.length) (hg : Good P) : check P = if bytesOf P < 256 then (7, P.length) else (0, 0) := by
  unfold check
  rw [if_neg h, if_neg (by simpa using scan_good.2 hg)]
theorem good_snoc {P : List Pc} {k : Nat} {p : Pc} (hg : Good (P.take k)) (hk : P[k]? = some p) (h : errAt (P.take k) p = 0) : Good (P.take (k + 1)) := by
  intro i q hq
  have hkl : k < P.length := (List.getElem?_eq_some_iff.1 hk).1
  have hi : i < k + 1 := by
    have := (List.getElem?_eq_some_iff.1 hq).1
    rw [List.length_take] at this; omega
  rw [List.getElem?_take, if_pos hi] at hq
  rw [List.take_take, Nat.min_eq_left (by omega)]
  by_cases e : i = k
  · subst e
    rw [hk] at hq
    rw [← Option.some.inj hq]
    exact h
  · have := hg i q (by rw [List.getElem?_take, if_pos (by omega)]; exact hq)
    rwa [List.take_take, Nat.min_eq_left (by omega)] at this
theorem scan_step {P : List Pc} {k : Nat} {p : Pc} (hk : P[k]? = some p) : scan (P.take k) (P.drop k) = if errAt (P.take k) p = 0 then scan (P.take (k + 1)) (P.drop (k + 1)) else (errAt (P.take k) p, k) := by
  have hkl : k < P.length := (List.getElem?_eq_some_iff.1 hk).1
  rw [drop_at hk, scan, take_snoc hk, List.length_take, Nat.min_eq_left (by omega)]
end Vo

theorem IsSeen.good_ {sb base : Nat} {D : List Vo.Pc} {p : Vo.Pc} {w w' : World} {e : Ending} (h : IsSeen sb base D p w e w') (he : Vo.errAt D p = 0) : e = .returned (.int .i64 0) ∧ SeenAt w' sb base (D ++ [p]) ∧ Below base w w' := by
  obtain ⟨h1, h2, h3⟩ := h
  rw [he] at h1
  rw [he, if_pos rfl] at h2
  exact ⟨h1, h2, h3⟩
theorem IsSeen.bad_ {sb base : Nat} {D : List Vo.Pc} {p : Vo.Pc} {w w' : World} {e : Ending} {n : Nat} (h : IsSeen sb base D p w e w') (he : Vo.errAt D p = n) : e = .returned (.int .i64 (n : Nat)) ∧ Below base w w' := by
  obtain ⟨h1, _, h3⟩ := h
  rw [he] at h1
  exact ⟨h1, h3⟩

set_option maxRecDepth 100000 in
set_option maxHeartbeats 4000000 in
theorem rsizes_any (P : List Vo.Pc) (v : Value) (B : Nat) (w : World) (hv : Lv pK w B v P) (hB : B ≤ w.heap.size) :
    Calls Try.prog 43 #[.agg #[v]] w (IsSizes P w) := by
  have hv0 := hv
  obtain ⟨A, c, rfl, h1, h2, _, _⟩ := hv
  have hl : P.length ≤ 9223372036854775807 := by simp only [maxLen] at h2; omega
  clear h1 h2
  by_cases hbig : 4096 < P.length
  · have HX : Hid (Vo.check P = (3, 0)) := by unfold Hid Vo.check; rw [if_pos hbig]
    go_enter Try.func43, Try.ntmps43
    go_wp2
    go_ret3
    exact ⟨_, by rw [HX.out]; rfl, (Below.refl _ _).alloc (Nat.le_refl _) _⟩
  · have HBig := Lib.hid hbig
    have hle : P.length ≤ 4096 := by omega
    obtain ⟨W, hW⟩ : ∃ W, (w.alloc (.cells #[.slice A P.length c] 24)).alloc (.cells Try.zeroCells103 103) = W := ⟨_, rfl⟩
    have d0 : W.cell? ⟨w.heap.size, 0, none⟩ = some (.slice A P.length c) := by
      rw [← hW, cell_of_row _ w.heap.size 0 _ _ _ ((heap_alloc_old _ _ (by simp)).trans (heap_alloc_new w _))]; rfl
    have hs1 : (w.alloc (.cells #[.slice A P.length c] 24)).heap.size = w.heap.size + 1 := by simp
    have HS0 : Hid (SeenAt W (w.heap.size + 1) (w.heap.size + 1) (P.take 0)) := by
      refine ⟨.slice none 0 0, ?_, Vo.bits_len _, OwnL.nil_ _ _ _, by simp [Value.ownBlock], Nat.le_refl _⟩
      have hh := heap_alloc_new (w.alloc (.cells #[.slice A P.length c] 24)) (.cells Try.zeroCells103 103)
      rw [hs1, hW, seen_zero] at hh
      exact hh
    have HB0 : Hid (Below w.heap.size w W) := by unfold Hid; rw [← hW]; exact ((Below.refl _ _).alloc (Nat.le_refl _) _).alloc (by simp) _
    have HSZ : Hid (W.heap.size = w.heap.size + 2) := by unfold Hid; rw [← hW]; simp
    clear hbig hs1
    go_enter Try.func43, Try.ntmps43
    go_wp2
    go_loopw [6] (fun i wr => ∃ k : Nat, k ≤ P.length ∧ i = .int .i64 k ∧ Hid (Vo.Good (P.take k)) ∧ Hid (Vo.scan [] P = Vo.scan (P.take k) (P.drop k)) ∧ Hid (SeenAt wr (w.heap.size + 1) (w.heap.size + 1) (P.take k)) ∧ Below (w.heap.size + 1) W wr) (fun i _ => P.length - (intOf i).toNat)
    case atStart => exact ⟨0, by omega, rfl, by intro i p h; simp at h, rfl, HS0.out, Below.refl _ _⟩
    case round =>
      obtain ⟨k, hk, rfl, HG, HSc, HS, hbr⟩ := hrel
      have HBr := Lib.hid hbr
      have HBw := Lib.hid (HB0.out.trans (hbr.mono (Nat.le_succ _)))
      have hd0 : wr.cell? ⟨w.heap.size, 0, none⟩ = some (.slice A P.length c) := (hbr.cell (p := ⟨w.heap.size, 0, none⟩) (Nat.lt_succ_self _)).trans d0
      have hsr : w.heap.size + 1 ≤ wr.heap.size := by have := hbr.size; have := HSZ.out; omega
      have HVr := Lib.hid (hv0.below_ HBw.out hB)
      clear HS0 hbr d0
      by_cases hlt : k < P.length
      · obtain ⟨b, off, p, rfl, hbB, hpok, hq, c0, c1, c2, c3, c4⟩ := HVr.out.piece_ hlt
        have hki : (k : Int) < (P.length : Int) := by omega
        cases hj : p.join with
        | true =>
          rw [hj] at c0
          have HC := Lib.hid (rsjoin_any (w.heap.size + 1) (w.heap.size + 1) B P k p _ wr HVr.out (by omega) hq hj hle HG.out hsr HS.out)
          by_cases he : Vo.errAt (P.take k) p = 0
          · have HC1 := Lib.hid (HC.out.mono fun e w' h => h.good_ he)
            have HG2 := Lib.hid (Vo.good_snoc HG.out hq he)
            have HSc2 : Hid (Vo.scan [] P = Vo.scan (P.take (k + 1)) (P.drop (k + 1))) := by unfold Hid; rw [HSc.out, Vo.scan_step hq, if_pos he]
            have HQ := Lib.hid (take_snoc hq)
            clear HC he hq HG HSc
            go_wp2_with (fail)
            refine (HC1.out).mono ?_
            rintro e w1 ⟨rfl, hs, hb⟩
            have HS2 : Hid (SeenAt w1 (w.heap.size + 1) (w.heap.size + 1) (P.take (k + 1))) := by unfold Hid; rw [HQ.out]; exact hs
            have HB2 := Lib.hid (HBr.out.trans hb)
            clear hs hb HC1
            go_wp2
            go_roundw
            case rel => exact ⟨k + 1, hlt, by go_num, HG2.out, HSc2.out, HS2.out, HB2.out⟩
            case measure => simp [intOf]; omega
          · obtain ⟨E, hE⟩ : ∃ E, Vo.errAt (P.take k) p = E := ⟨_, rfl⟩
            have HC1 := Lib.hid (HC.out.mono fun e w' h => h.bad_ hE)
            have HX : Hid (Vo.check P = (E, k)) := Vo.check_scan HBig.out (by rw [HSc.out, Vo.scan_step hq, if_neg he, hE]) (by rw [← hE]; exact he)
            rw [hE] at he
            have heb : ((E : Int) != 0) = true := by rw [bne_iff_ne]; omega
            clear HC he hE hq HG HSc
            go_wp2_with (fail)
            refine (HC1.out).mono ?_
            rintro e w1 ⟨rfl, hb⟩
            have HB2 := Lib.hid (HBw.out.trans (hb.mono (Nat.le_succ _)))
            clear hb HC1
            go_wp2
            go_ret3
            exact ⟨_, by rw [HX.out]; rfl, HB2.out⟩
        | false =>
          rw [hj] at c0
          have HC := Lib.hid (rsbyte_any (w.heap.size + 1) (w.heap.size + 1) (P.take k) p wr hpok hj (by rw [List.length_take]; omega) hsr HS.out)
          unfold pcV at HC
          rw [hj] at HC
          by_cases he : Vo.errAt (P.take k) p = 0
          · have HC1 := Lib.hid (HC.out.mono fun e w' h => h.good_ he)
            have HG2 := Lib.hid (Vo.good_snoc HG.out hq he)
            have HSc2 : Hid (Vo.scan [] P = Vo.scan (P.take (k + 1)) (P.drop (k + 1))) := by unfold Hid; rw [HSc.out, Vo.scan_step hq, if_pos he]
            have HQ := Lib.hid (take_snoc hq)
            clear HC he hq HG HSc
            go_wp2_with (fail)
            refine (HC1.out).mono ?_
            rintro e w1 ⟨rfl, hs, hb⟩
            have HS2 : Hid (SeenAt w1 (w.heap.size + 1) (w.heap.size + 1) (P.take (k + 1))) := by unfold Hid; rw [HQ.out]; exact hs
            have HB2 := Lib.hid (HBr.out.trans hb)
            clear hs hb HC1
            go_wp2
            go_roundw
            case rel => exact ⟨k + 1, hlt, by go_num, HG2.out, HSc2.out, HS2.out, HB2.out⟩
            case measure => simp [intOf]; omega
          · obtain ⟨E, hE⟩ : ∃ E, Vo.errAt (P.take k) p = E := ⟨_, rfl⟩
            have HC1 := Lib.hid (HC.out.mono fun e w' h => h.bad_ hE)
            have HX : Hid (Vo.check P = (E, k)) := Vo.check_scan HBig.out (by rw [HSc.out, Vo.scan_step hq, if_neg he, hE]) (by rw [← hE]; exact he)
            rw [hE] at he
            have heb : ((E : Int) != 0) = true := by rw [bne_iff_ne]; omega
            clear HC he hE hq HG HSc
            go_wp2_with (fail)
            refine (HC1.out).mono ?_
            rintro e w1 ⟨rfl, hb⟩
            have HB2 := Lib.hid (HBw.out.trans (hb.mono (Nat.le_succ _)))
            clear hb HC1
            go_wp2
            go_ret3
            exact ⟨_, by rw [HX.out]; rfl, HB2.out⟩
      · obtain rfl : k = P.length := by omega
        have hG := HG.out
        rw [List.take_length] at hG
        have HX := Lib.hid (Vo.check_good HBig.out hG)
        have hS := HS.out
        rw [List.take_length] at hS
        obtain ⟨x, hx⟩ := hS
        have hm := hx.many_
        have hs := hx.slice_
        clear hG hx
        by_cases hmany : Vo.bytesOf P < 256
        · rw [if_pos hmany] at HX
          have hmi : (Vo.bytesOf P : Int) < 256 := by omega
          obtain ⟨m, hme⟩ : ∃ m, Vo.bytesOf P = m := ⟨_, rfl⟩
          rw [hme] at hm hmi
          clear hmany hme
          go_wp2
          go_quiet (fail)
          go_wp2
          go_ret3
          exact ⟨_, by rw [HX.out]; rfl, below_drewN HBw.out _⟩
        · rw [if_neg hmany] at HX
          have hmi : ¬ (Vo.bytesOf P : Int) < 256 := by omega
          obtain ⟨m, hme⟩ : ∃ m, Vo.bytesOf P = m := ⟨_, rfl⟩
          rw [hme] at hm hmi
          clear hmany hme
          go_wp2
          go_ret3
          exact ⟨_, by rw [HX.out]; rfl, HBw.out⟩
end Go.Proofs.Ytglkhgchbnkekaa
namespace Go.Proofs.Ytglkhgchbnkekaa
open Go.RowKit
set_option linter.unusedVariables false

/-- A vocabulary's box: what stands in it, and what it leaves. -/
theorem boxed {w W : World} {u : Value} {t : TypeId} (hW : w.alloc (.cells #[u] t) = W) : W.cell? ⟨w.heap.size, 0, none⟩ = some u ∧ W.heap.size = w.heap.size + 1 ∧ Below w.heap.size w W := by
  subst hW
  refine ⟨?_, by simp, (Below.refl _ _).alloc (Nat.le_refl _) _⟩
  rw [cell_of_row _ w.heap.size 0 _ _ _ (heap_alloc_new w _)]; rfl

/-- A box below B, and what stands in it. -/
def BoxAt (w : World) (B a : Nat) (u : Value) : Prop := a < B ∧ w.cell? ⟨a, 0, none⟩ = some u
theorem BoxAt.below_ {w w' : World} {B a : Nat} {u : Value} (h : BoxAt w B a u) {B' : Nat} (hb : Below B' w w') (hB : B ≤ B') : BoxAt w' B a u :=
  ⟨h.1, (hb.cell (p := ⟨a, 0, none⟩) (Nat.lt_of_lt_of_le h.1 hB)).trans h.2⟩
theorem BoxAt.drew_ {w : World} {B a : Nat} {u : Value} (h : BoxAt w B a u) : BoxAt w.drew B a u := h
theorem BoxAt.mono_ {w : World} {B a : Nat} {u : Value} (h : BoxAt w B a u) {B' : Nat} (hB : B ≤ B') : BoxAt w B' a u := ⟨Nat.lt_of_lt_of_le h.1 hB, h.2⟩
/-- A box below B in which a piece stands. -/
def PBoxAt (w : World) (B a : Nat) (p : Vo.Pc) : Prop := a < B ∧ ∀ (i : Nat) (u : Value), #[.bool p.join, .int .u8 (p.byte : Nat), .int .i64 p.left, .int .i64 p.right, .int .u32 (p.rank : Nat)][i]? = some u → w.cell? ⟨a, i, none⟩ = some u
theorem PBoxAt.below_ {w w' : World} {B a : Nat} {p : Vo.Pc} (h : PBoxAt w B a p) {B' : Nat} (hb : Below B' w w') (hB : B ≤ B') : PBoxAt w' B a p :=
  ⟨h.1, fun i u hi => (hb.cell (p := ⟨a, i, none⟩) (Nat.lt_of_lt_of_le h.1 hB)).trans (h.2 i u hi)⟩
theorem PBoxAt.drew_ {w : World} {B a : Nat} {p : Vo.Pc} (h : PBoxAt w B a p) : PBoxAt w.drew B a p := h
theorem PBoxAt.mono_ {w : World} {B a : Nat} {p : Vo.Pc} (h : PBoxAt w B a p) {B' : Nat} (hB : B ≤ B') : PBoxAt w B' a p := ⟨Nat.lt_of_lt_of_le h.1 hB, h.2⟩
theorem pboxed {w W : World} {p : Vo.Pc} {t : TypeId} (hW : w.alloc (.cells #[.bool p.join, .int .u8 (p.byte : Nat), .int .i64 p.left, .int .i64 p.right, .int .u32 (p.rank : Nat)] t) = W) : PBoxAt W W.heap.size w.heap.size p ∧ Below w.heap.size w W := by
  subst hW
  refine ⟨⟨by simp, fun i u hi => ?_⟩, (Below.refl _ _).alloc (Nat.le_refl _) _⟩
  rw [cell_of_row _ w.heap.size i _ _ _ (heap_alloc_new w _)]
  exact hi
/-- A call that answers an error and a place, or a bool, and turns nothing that was there. -/
def IsCheck (r : Nat × Nat) (w : World) (e : Ending) (w' : World) : Prop := e = .returned (.tuple #[.int .i64 (r.1 : Nat), .int .i64 (r.2 : Nat)]) ∧ Below w.heap.size w w'

set_option maxHeartbeats 1000000 in
theorem rcheck_any (P : List Vo.Pc) (v : Value) (B : Nat) (w : World) (hv : Lv pK w B v P) (hB : B ≤ w.heap.size) :
    Calls Try.prog 37 #[.agg #[v]] w (IsCheck (Vo.check P) w) := by
  obtain ⟨W, hW⟩ : ∃ W, w.alloc (.cells #[v] 24) = W := ⟨_, rfl⟩
  obtain ⟨d0, hsz, hb⟩ := boxed hW
  have HC := Lib.hid (rsizes_any P v B W (hv.below_ hb hB) (Nat.le_trans hB hb.size))
  have HB := Lib.hid hb
  obtain ⟨A, c, rfl, _, _, _, _⟩ := hv
  clear hsz hb
  go_enter Try.func37, Try.ntmps37
  go_wp2_with (fail)
  refine (HC.out).mono ?_
  rintro e w1 ⟨u, rfl, hb⟩
  have HB2 := Lib.hid (HB.out.trans (hb.mono HB.out.size))
  clear hb HC
  go_wp2
  go_ret2
  exact ⟨rfl, HB2.out⟩

set_option maxHeartbeats 1000000 in
theorem rmay_voc (P : List Vo.Pc) (v : Value) (B : Nat) (w : World) (hv : Lv pK w B v P) (hB : B ≤ w.heap.size) :
    Calls Try.prog 26 #[.agg #[v]] w (IsBool (decide (Vo.May P)) w) := by
  obtain ⟨W, hW⟩ : ∃ W, w.alloc (.cells #[v] 24) = W := ⟨_, rfl⟩
  obtain ⟨d0, hsz, hb⟩ := boxed hW
  have HC := Lib.hid (rsizes_any P v B W (hv.below_ hb hB) (Nat.le_trans hB hb.size))
  have HB := Lib.hid hb
  obtain ⟨A, c, rfl, _, _, _, _⟩ := hv
  obtain ⟨E, hE⟩ : ∃ E, (Vo.check P).1 = E := ⟨_, rfl⟩
  have HX : Hid (decide (Vo.May P) = ((E : Int) == 0)) := by
    unfold Hid
    rw [Bool.eq_iff_iff, decide_eq_true_eq, beq_iff_eq]
    unfold Vo.May
    rw [hE]
    omega
  unfold IsSizes at HC
  rw [hE] at HC
  clear hsz hb hE
  go_enter Try.func26, Try.ntmps26
  go_wp2_with (fail)
  refine (HC.out).mono ?_
  rintro e w1 ⟨u, rfl, hb⟩
  have HB2 := Lib.hid (HB.out.trans (hb.mono HB.out.size))
  clear hb HC
  go_wp2
  go_ret
  exact ⟨by rw [HX.out]; rfl, HB2.out⟩

set_option maxHeartbeats 1000000 in
theorem many_any (P : List Vo.Pc) (v : Value) (B : Nat) (w : World) (hv : Lv pK w B v P) :
    Calls Try.prog 8 #[.agg #[v]] w (IsBool (decide (700 < P.length)) w) := by
  obtain ⟨A, c, rfl, h1, h2, _, _⟩ := hv
  have hl : P.length ≤ 9223372036854775807 := by simp only [maxLen] at h2; omega
  clear h1 h2
  by_cases h : 700 < P.length
  · have hd : decide (700 < (P.length : Int)) = true := by simp; omega
    have HX : Hid (decide (700 < P.length) = true) := by unfold Hid; simpa using h
    go_enter Try.func8, Try.ntmps8
    go_wp2
    go_ret
    exact ⟨by rw [HX.out]; rfl, (Below.refl _ _).alloc (Nat.le_refl _) _⟩
  · have hd : decide (700 < (P.length : Int)) = false := by simp; omega
    have HX : Hid (decide (700 < P.length) = false) := by unfold Hid; simpa using h
    go_enter Try.func8, Try.ntmps8
    go_wp2
    go_ret
    exact ⟨by rw [HX.out]; rfl, (Below.refl _ _).alloc (Nat.le_refl _) _⟩
end Go.Proofs.Ytglkhgchbnkekaa
