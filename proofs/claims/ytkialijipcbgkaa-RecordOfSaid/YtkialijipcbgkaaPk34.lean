/-
  RRcA: stookref13.Put.
  RRcB: stookref13.Get.
  RcMathB: Plain mathematics of chapter 13 (record): the record of a document, a record's document.
  ShAdd: Two states added, word by word, as Go's cells.
-/
import Derived.Test.YtkialijipcbgkaaPk33
import Derived.Test.YtkialijipcbgkaaPk31
import Derived.Test.YtkialijipcbgkaaPk21
import Derived.Test.YtkialijipcbgkaaPk30
import Derived.StillTailTactics
import Derived.Deep.QuietTactic
import Derived.BigQuiet
import Derived.Test.YtkialijipcbgkaaPk32
import Derived.Test.YtkialijipcbgkaaPk05
namespace Go.Proofs.Ytkialijipcbgkaa
open Go.RowKit
set_option linter.unusedVariables false
/-- A record's digest, cut out of its box. -/
theorem rc_src {w : World} {g : Nat} {C : Array Value} {d : List Nat} (hR : Rw w g 27 C) (hD : ∀ k x : Nat, d[k]? = some x → C[k]? = some (.int .u8 (x : Nat))) (hl : d.length = 32) (h8 : ∀ x ∈ d, x < 256) :
    Bv w (g + 1) (.slice (some ⟨g, 0, none⟩) 32 32) d :=
  ⟨some ⟨g, 0, none⟩, 32, by rw [hl], by omega, by simp [maxLen], by simp, h8, fun _ => ⟨g, 0, rfl, by omega, fun j x hj => by rw [Nat.zero_add]; exact (hR.cell j).trans (hD j x hj)⟩⟩
theorem pow8 (k : Nat) : 2 ^ (8 * k) = 256 ^ k := by rw [Nat.pow_mul]

set_option maxHeartbeats 2000000 in
set_option maxRecDepth 100000 in
theorem rrcput_any (r : Rc.Rec) (t : Value) (B : Nat) (w : World) (hf : Rc.Fit r) (ht : Lv iK w B t r.toks) (hB : B ≤ w.heap.size) :
    Calls Try.prog 12 #[.agg (rcC r t)] w (IsPB (Rc.putE r) w) := by
  have HD : Hid (∀ k x : Nat, r.dig[k]? = some x → (rcC r t)[k]? = some (.int .u8 (x : Nat))) := fun k x h => rcC_dig hf h
  have HID : Hid ((rcC r t)[32]? = some (.int .u64 (r.id : Nat))) := rcC_id hf
  have HLN : Hid ((rcC r t)[33]? = some (.int .i64 r.len)) := rcC_len hf
  have HTK : Hid ((rcC r t)[34]? = some t) := rcC_toks hf
  obtain ⟨C, hC⟩ : ∃ C, rcC r t = C := ⟨_, rfl⟩
  rw [hC] at HD HID HLN HTK ⊢
  obtain ⟨W, hW⟩ : ∃ W, w.alloc (.cells C 27) = W := ⟨_, rfl⟩
  obtain ⟨hR, hsz, hb⟩ := rc_boxed hW
  have d32 : W.cell? ⟨w.heap.size, 32, none⟩ = some (.int .u64 (r.id : Nat)) := (hR.cell _).trans HID.out
  have d33 : W.cell? ⟨w.heap.size, 33, none⟩ = some (.int .i64 r.len) := (hR.cell _).trans HLN.out
  have d34 : W.cell? ⟨w.heap.size, 34, none⟩ = some t := (hR.cell _).trans HTK.out
  have HLEN := Lib.hid hf.len
  have HDL := Lib.hid hf.dl
  have HD8 := Lib.hid hf.d8
  have HIL := Lib.hid hf.id
  have HP := Lib.hid (rpput_any t r.toks B W (Nat.le_trans hB hb.size) (ht.below_ hb hB))
  have HR0 := Lib.hid hR
  have HWS : Hid (w.heap.size < W.heap.size) := by unfold Hid; omega
  have HB0 := Lib.hid hb
  obtain ⟨A, c, rfl, hc1, hc2, _, _⟩ := ht
  clear hf hB hb hR hC hsz hc1 hc2
  by_cases ha : r.len < 0 ∨ 4096 < r.len
  · have HE := Lib.hid (Rc.putE_arg ha)
    by_cases h0 : r.len < 0
    · clear ha HP
      go_enter Try.func12, Try.ntmps12
      go_wp2
      go_ret2
      exact IsPB.none_b HE.out rfl HB0.out
    · have h1 : 4096 < r.len := by omega
      clear ha HP
      go_enter Try.func12, Try.ntmps12
      go_wp2
      go_ret2
      exact IsPB.none_b HE.out rfl HB0.out
  · have h0 : ¬ r.len < 0 := by omega
    have h1 : ¬ 4096 < r.len := by omega
    obtain ⟨⟨y, e⟩, hy⟩ : ∃ x, Pk.putE r.toks = x := ⟨_, rfl⟩
    rw [hy] at HP
    by_cases he : e = 0
    · subst he
      have HE := Lib.hid (Rc.putE_ok ha hy)
      have HY := Lib.hid (Pk.putE_small hy)
      have HTL := Lib.hid (Pk.putE_len hy)
      clear ha hy
      go_enter Try.func12, Try.ntmps12
      go_wp2_with fail
      refine HP.out.mono ?_
      rintro e w1 ⟨A1, c1, rfl, ho, hb1⟩
      have HO1 := Lib.hid ho
      have HB1 := Lib.hid (HB0.out.trans (hb1.mono HB0.out.size))
      have HR1 := Lib.hid (HR0.out.below hb1 HR0.out.lt)
      have HZ : Hid (W.heap.size ≤ w1.heap.size ∧ w.heap.size < W.heap.size) := ⟨hb1.size, HWS.out⟩
      obtain ⟨z, hz⟩ : ∃ z, w1.heap.size = z := ⟨_, rfl⟩
      have HY1 : Hid (Bv w1 z (.slice A1 y.length c1) y) := by unfold Hid; rw [← hz]; exact ho.form_
      have HZ2 : Hid (w.heap.size < z ∧ z = w1.heap.size) := ⟨by have := HZ.out; omega, hz.symm⟩
      clear ho hb1 HP d32 d33 d34 hW HB0 HR0 HO1 HZ HWS hz
      have HSR := Lib.hid (rc_src HR1.out HD.out HDL.out HD8.out)
      have HN0 : Hid (OwnB w1 z (.slice none 0 0) []) := OwnB.nil_ _ _
      go_wp2_with (at_builtin; go_must (refine wpList_append_bytes _ rfl _ _ rfl rfl z _ rfl [] HN0.out _ rfl _ r.dig HSR.out (by have := HDL.out; simp; omega) (Nat.le_of_eq HZ2.out.2) ?_; intro A2 c2 w2 hA))
      have HO2 : Hid (OwnB w2 z (.slice A2 r.dig.length c2) r.dig) := hA.own
      have hap : Below z w1 w2 := (Below.refl _ _).grown hA.grown (Nat.le_of_eq HZ2.out.2) (fun k hk => by cases hk)
      have HB2 := Lib.hid (HB1.out.trans (hap.mono (Nat.le_of_lt HZ2.out.1)))
      have HR2 := Lib.hid (HR1.out.below hap HZ2.out.1)
      have HY2 := Lib.hid (HY1.out.below_ hap (Nat.le_refl _))
      have HS2 : Hid (z ≤ w2.heap.size) := by have := hap.size; have := HZ2.out.2; unfold Hid; omega
      clear hap HSR HN0 HR1 HB1 HY1
      go_loopw [6, 7] (fun v i wr => ∃ k : Nat, k ≤ 8 ∧ i = .int .i64 (k : Nat) ∧ Hid (OwnB wr z v (r.dig ++ Rc.le r.id k)) ∧ Hid (Rw wr w.heap.size 27 C) ∧ Hid (Below z w2 wr)) (fun _ i _ => 8 - (intOf i).toNat)
      case atStart => exact ⟨0, by omega, rfl, by rw [show Rc.le r.id 0 = [] from rfl, List.append_nil]; exact HO2.out, HR2.out, Below.refl _ _⟩
      case round =>
        obtain ⟨k, hk, rfl, HO, HR, HB⟩ := hrel
        clear HO2 HR2
        by_cases h8 : k < 8
        · have hk8 : (k : Int) < 8 := by omega
          have c32 : wr.cell? ⟨w.heap.size, 32, none⟩ = some (.int .u64 (r.id : Nat)) := (HR.out.cell _).trans HID.out
          obtain ⟨q, hq⟩ : ∃ q, 8 * k = q := ⟨_, rfl⟩
          have hq64 : q < 64 := by omega
          have i5 : (8 : Int) * (k : Int) = (q : Nat) := by omega
          obtain ⟨x, hx⟩ : ∃ x, r.id / 2 ^ q % 256 = x := ⟨_, rfl⟩
          have hxi : ((r.id : Nat) : Int) / 2 ^ q % 256 = (x : Nat) := by rw [← hx]; simp
          have hx8 : x < 256 := by omega
          have HLS : Hid (r.dig ++ Rc.le r.id k ++ [x] = r.dig ++ Rc.le r.id (k + 1)) := by
            unfold Hid
            rw [Rc.le_succ, ← hx, ← hq, pow8, List.append_assoc]
          have hll : (r.dig ++ Rc.le r.id k).length = 32 + k := by rw [List.length_append, HDL.out, Rc.le_len]
          obtain ⟨L, hL⟩ : ∃ L, r.dig ++ Rc.le r.id k = L := ⟨_, rfl⟩
          rw [hL] at HO HLS hll
          have hown1 := HO.out.alloc_ (.cells #[.int .u8 (x : Int)] 5)
          have hsrc := Bv.one_ wr (x := (x : Int)) (c := x) rfl hx8
          have hzr : z ≤ wr.heap.size := by have := HB.out.size; have := HS2.out; omega
          have HB3 := Lib.hid (HB.out.alloc hzr (.cells #[.int .u8 (x : Int)] 5))
          have HR3 := Lib.hid (HR.out.old (.cells #[.int .u8 (x : Int)] 5))
          have HO1 := Lib.hid hown1
          have HS := Lib.hid hsrc
          have HZR := Lib.hid hzr
          have HLL := Lib.hid hll
          clear hx hq hown1 hsrc hzr hll hL HO HR HB
          go_wp2_with (at_builtin; go_must (refine wpList_append_bytes _ rfl _ _ rfl rfl z _ rfl L HO1.out _ rfl _ [x] HS.out (by have := HLL.out; simp; omega) (by have := HZR.out; simp; omega) ?_; intro A3 c3 w3 hA3))
          have hb3 : Below z (wr.alloc (.cells #[.int .u8 (x : Int)] 5)) w3 := (Below.refl _ _).grown hA3.grown (by have := HZR.out; simp; omega) (fun k hk => (HO1.out.lt_ k hk).1)
          go_roundw
          case rel => exact ⟨k + 1, by omega, by go_num, by have e := hA3.own; rw [show (L ++ [x]).length = L.length + 1 by simp] at e; rw [← HLS.out]; exact e, HR3.out.below hb3 HZ2.out.1, HB3.out.trans hb3⟩
          case measure => simp [intOf]; omega
        · obtain rfl : k = 8 := by omega
          have c33 : wr.cell? ⟨w.heap.size, 33, none⟩ = some (.int .i64 r.len) := (HR.out.cell _).trans HLN.out
          have HBr := Lib.hid (HB2.out.trans (HB.out.mono (Nat.le_of_lt HZ2.out.1)))
          have HYr := Lib.hid (HY2.out.below_ HB.out (Nat.le_refl _))
          have HSr : Hid (z ≤ wr.heap.size) := by have := HB.out.size; have := HS2.out; unfold Hid; omega
          obtain ⟨n, hn⟩ : ∃ n : Nat, r.len.toNat = n := ⟨_, rfl⟩
          have hrl : r.len = (n : Int) := by omega
          have wn : IntKind.u64.wrap (n : Int) = (n : Int) := by rw [IntKind.wrap_u64]; omega
          have HLP := Lib.hid (rput_any 9 n wr (by omega) (by unfold Mt.B64; omega))
          have HPL := Lib.hid (Mt.put_len_le n)
          have HEE : Hid (Rc.putE r = (r.dig ++ Rc.le r.id 8 ++ Mt.put n ++ y, 0)) := by unfold Hid; rw [HE.out, ← hn]; rfl
          have HLL : Hid ((r.dig ++ Rc.le r.id 8).length = 40) := by unfold Hid; rw [List.length_append, HDL.out, Rc.le_len]
          obtain ⟨L, hL⟩ : ∃ L, r.dig ++ Rc.le r.id 8 = L := ⟨_, rfl⟩
          rw [hL] at HO HEE HLL
          rw [hrl] at c33 h0 h1
          have hi8 : ¬ ((8 : Nat) : Int) < 8 := by omega
          clear hn hrl hL HB HR HB2 HY2 HS2 HE hk h8
          go_wp2_with fail
          refine HLP.out.mono ?_
          rintro e w4 ⟨A4, c4, rfl, ho4, hb4⟩
          have HY4 := Lib.hid (HYr.out.below_ (hb4.mono HSr.out) (Nat.le_refl _))
          have HO4 := Lib.hid (HO.out.below_ hb4 (Nat.le_refl _))
          have HS4 := Lib.hid ho4.form_
          have HB4 := Lib.hid (HBr.out.trans (hb4.mono HBr.out.size))
          have HZ4 : Hid (z ≤ w4.heap.size) := by have := hb4.size; have := HSr.out; unfold Hid; omega
          clear ho4 hb4 HYr HO HBr HSr HLP c33
          go_wp2_with (first
            | (at_builtin; (refine wpList_append_bytes _ rfl (.tmp 48) (.tmp 49) rfl rfl z _ rfl L HO4.out _ rfl _ (Mt.put n) HS4.out (by have := HLL.out; have := HPL.out; omega) HZ4.out ?_; intro A5 c5 w5 hA5; have ho5 := hA5.own; rw [List.length_append] at ho5; have hz5 : z ≤ w5.heap.size := Nat.le_trans HZ4.out (Below.grown (Below.refl z _) hA5.grown HZ4.out (fun k hk => (HO4.out.lt_ k hk).1)).size; have HY5 := HY4.out.below_ (Below.grown (Below.refl z _) hA5.grown HZ4.out (fun k hk => (HO4.out.lt_ k hk).1)) (Nat.le_refl _)))
            | (at_builtin; go_must (refine wpList_append_bytes _ rfl (.tmp 51) (.tmp 52) rfl rfl z _ rfl (L ++ Mt.put n) ho5 _ rfl _ y HY5 (by have := HLL.out; have := HPL.out; have := HY.out; have := HTL.out; simp; omega) hz5 ?_; intro A6 c6 w6 hA6)))
          go_ret2
          have ho6 := hA6.own
          rw [show (L ++ Mt.put n ++ y).length = L.length + ((Mt.put n).length + y.length) by simp] at ho6
          have hb6 := (Below.refl z _).grown hA6.grown hz5 (fun k hk => (ho5.lt_ k hk).1)
          have hb5 := (Below.refl z _).grown hA5.grown HZ4.out (fun k hk => (HO4.out.lt_ k hk).1)
          have hz := HZ2.out.1
          exact IsPB.of HEE.out rfl (ho6.mono_ (Nat.le_of_lt hz)) (HB4.out.trans ((hb5.trans hb6).mono (Nat.le_of_lt hz)))
    · have HE := Lib.hid (Rc.putE_err ha hy he)
      have hei : ((e : Int) != 0) = true := by rw [bne_iff_ne]; omega
      clear ha hy
      go_enter Try.func12, Try.ntmps12
      go_wp2_with fail
      refine HP.out.mono ?_
      rintro e' w1 ⟨A1, c1, rfl, ho, hb1⟩
      have HB1 := Lib.hid (HB0.out.trans (hb1.mono HB0.out.size))
      clear ho hb1 HP d32 d33 d34 hW HB0 HR0
      go_wp2
      go_ret2
      exact IsPB.none_b HE.out rfl HB1.out
end Go.Proofs.Ytkialijipcbgkaa
namespace Go.Proofs.Ytkialijipcbgkaa
open Go.RowKit
set_option linter.unusedVariables false

theorem IsRE.ret0 {fn : Func} {p u1 : Tmp} {w w' : World} {a : Act} {g e : Nat} {N : Array Value} {r : Rc.Rec × Nat} {x : Int} (hf : fn.results = #[.cell p 27, .tmp u1]) (hN : none35 = N) (ha : a.defers = [])
    (hp : a.tmps.getD p undef = .pointer (some ⟨g, 0, none⟩)) (hx : a.tmps.getD u1 undef = .int .i64 x) (hg : Rw w' g 27 N) (hr : r = (Rc.zero, e)) (he : x = (e : Nat)) (hb : Below w.heap.size w w') :
    bodyPost Try.prog fn (IsRE r w) Exit.ret a w' := by
  subst hN
  exact bodyPost_ret (results_rc hf _ _ g none35 _ _ hp hx (rcC_size Rc.fit_zero) hg) ha (IsRE.none_ hr he hb)

theorem IsRE.ret1 {fn : Func} {p u1 : Tmp} {w w' : World} {a : Act} {g : Nat} {r : Rc.Rec × Nat} {y : Rc.Rec} {A : Option Addr} {c : Nat} (hf : fn.results = #[.cell p 27, .tmp u1]) (ha : a.defers = [])
    (hp : a.tmps.getD p undef = .pointer (some ⟨g, 0, none⟩)) (hx : a.tmps.getD u1 undef = .int .i64 0) (hg : Rw w' g 27 (rcC y (.slice A y.toks.length c))) (hr : r = (y, 0)) (hy : Rc.Fit y)
    (ho : OwnL iK w' w.heap.size (.slice A y.toks.length c) y.toks) (hb : Below w.heap.size w w') :
    bodyPost Try.prog fn (IsRE r w) Exit.ret a w' :=
  bodyPost_ret (results_rc hf _ _ g _ _ _ hp hx (rcC_size hy) hg) ha (IsRE.of hr rfl hy ho hb)

set_option maxHeartbeats 2000000 in
set_option maxRecDepth 100000 in
theorem rrcget_any (v : Value) (b : List Nat) (B : Nat) (w : World) (hB : B ≤ w.heap.size) (h : Bv w B v b) :
    Calls Try.prog 16 #[v] w (IsRE (Rc.getE b) w) := by
  have hz35 := rc_zeroV
  have H0 := Lib.hid h
  have HBB := Lib.hid hB
  have hlt8 := h.lt_
  have HL8 := Lib.hid hlt8
  obtain ⟨A, c, rfl, hc1, hc2, _, hbts⟩ := h
  have hbl : b.length ≤ 9223372036854775807 := by simp only [maxLen] at hc2; omega
  clear hc1 hc2
  have hsz : (Try.prog.info? 27).map (·.size) = some none35.size := rc_sizeof Rc.fit_zero
  have hone : none35.all (·.oneCell') = true := rcC_one rfl
  have HF0 : Hid (rcC Rc.zero (.slice none 0 0) = none35) := rfl
  have HNS : Hid (none35.size = 35) := rcC_size Rc.fit_zero
  obtain ⟨N, hN⟩ : ∃ N, none35 = N := ⟨_, rfl⟩
  have hb0 := rc_built0
  rw [hN] at hz35 hsz hone HF0 hb0 HNS
  by_cases h40 : b.length < 40
  · have HE := Lib.hid (Rc.getE_short h40)
    have hi : (b.length : Int) < 40 := by omega
    have HR0 : Hid (Rw (w.alloc (.cells N 27)) w.heap.size 27 N) := Rw.new w _ _
    clear h40 hlt8 
    go_enter Try.func16, Try.ntmps16
    go_wp2_with (first
      | (refine wpList_build_at rfl 27 _ rfl N hb0 ?_)
      | (refine wpList_store_row rfl _ _ _ rfl w.heap.size N rfl rfl 27 _ HR0.out hsz rfl hone ?_))
    exact IsRE.ret0 rfl hN rfl rfl rfl (Rw.row HR0.out N) HE.out rfl (below_setRow ((Below.refl _ _).alloc (Nat.le_refl _) _) (Nat.le_refl _) _)
  · have hi : ¬ (b.length : Int) < 40 := by omega
    have H40 : Hid (¬ b.length < 40) := h40
    have hd40 : 40 ≤ b.length := by omega
    obtain ⟨z0, hz0⟩ : ∃ z, w.heap.size = z := ⟨_, rfl⟩
    obtain ⟨z1, hz1⟩ : ∃ z, z0 + 1 = z := ⟨_, rfl⟩
    obtain ⟨W, hW⟩ : ∃ W, (w.alloc (.cells N 27)).alloc (.cells N 27) = W := ⟨_, rfl⟩
    have HR0 : Hid (Rw W z0 27 N) := by unfold Hid; rw [← hW, ← hz0]; exact (Rw.new w _ _).old _
    have HR1 : Hid (Rw W z1 27 N) := by unfold Hid; rw [← hW]; exact Rw.at_ (by simp; omega) _ _
    have HB0 : Hid (Below w.heap.size w W) := by unfold Hid; rw [← hW]; exact ((Below.refl _ _).alloc (Nat.le_refl _) _).alloc (by simp) _
    have HZ : Hid (z0 = w.heap.size ∧ z1 = z0 + 1) := ⟨hz0.symm, hz1.symm⟩
    have hsz1 : (w.alloc (.cells N 27)).heap.size = z1 := by simp; omega
    obtain ⟨bb, off, rfl, hblt, hcell⟩ := hbts.2 (by omega)
    have HC : Hid (∀ w', Below w.heap.size w w' → ∀ (j x : Nat), b[j]? = some x → w'.cell? ⟨bb, off + j, none⟩ = some (.int .u8 (x : Nat))) := fun w' hb' j x hj =>
      (hb'.cell (p := ⟨bb, off + j, none⟩) (by show bb < _; have := HBB.out; omega)).trans (hcell j x hj)
    clear h40 hlt8 hcell hblt hbts
    go_enter Try.func16, Try.ntmps16
    go_wp2
    go_loopw [5] (fun i wr => ∃ k : Nat, k ≤ 32 ∧ i = .int .i64 (k : Nat) ∧ Hid (Rw wr z0 27 N) ∧ Hid (Rw wr z1 27 (rcC ⟨Rc.dk b k, 0, 0, []⟩ (.slice none 0 0))) ∧ Hid (Below w.heap.size w wr)) (fun i _ => 32 - (intOf i).toNat)
    case atStart => exact ⟨0, by omega, rfl, HR0.out, by rw [Rc.dk_zero]; exact HF0.out ▸ HR1.out, HB0.out⟩
    case round =>
      obtain ⟨k, hk, rfl, HA, HL, HB⟩ := hrel
      clear HR0 HR1 HB0 hW
      by_cases h32 : k < 32
      · obtain ⟨x, hx⟩ : ∃ x, b[k]? = some x := ⟨_, List.getElem?_eq_getElem (by omega)⟩
        have c0 := HC.out wr HB.out k x hx
        have co : wr.cell? ⟨z1, k, none⟩ = some (.int .u8 (0 : Nat)) := (HL.out.cell _).trans (rcC_dig (Rc.dk_fit HL8.out (by omega) hk (by omega) (by unfold I64; omega)) (Rc.dk_old (by omega) h32))
        have cf : wr.frozen? ⟨z1, k, none⟩ = false := HL.out.frozen _
        have i0 : (k : Int) < 32 := by omega
        have i1 : (0 : Int) ≤ (k : Int) := by omega
        have i2 : (k : Int) < (b.length : Int) := by omega
        have hset : Hid ((rcC ⟨Rc.dk b k, 0, 0, []⟩ (.slice none 0 0)).setIfInBounds k (.int .u8 (x : Nat)) = rcC ⟨Rc.dk b (k + 1), 0, 0, []⟩ (.slice none 0 0)) := by
          unfold Hid
          rw [rcC_setDig (by rw [Rc.dk_len (by omega) hk]; exact h32)]
          show rcC ⟨(Rc.dk b k).set k x, 0, 0, []⟩ _ = _
          rw [Rc.dk_set (by omega) h32 hx]
        clear hx
        go_wp2
        have hd := HL.out.set k (.int .u8 (x : Nat))
        rw [hset.out] at hd
        exact ⟨⟨k + 1, by omega, by go_num, HA.out.setOther (by have := HZ.out; omega) _ _, hd, HB.out.setCell (show w.heap.size ≤ z1 by have := HZ.out; omega) _⟩, by simp [intOf]; omega⟩
      · obtain rfl : k = 32 := by omega
        rw [Rc.dk_end] at HL
        have HDF : Hid (∀ (n : Nat) (z : Int) (l : List Int), n < 18446744073709551616 → I64 z → Rc.Fit ⟨b.take 32, n, z, l⟩) := fun n z l hn hz => by
          have := Rc.dk_fit (l := l) HL8.out (show 32 ≤ b.length by omega) (Nat.le_refl 32) hn hz
          rwa [Rc.dk_end] at this
        obtain ⟨d, hd⟩ : ∃ d, b.take 32 = d := ⟨_, rfl⟩
        rw [hd] at HL HDF
        have HDL : Hid (d.length = 32) := (HDF.out 0 0 [] (by omega) (by unfold I64; omega)).dl
        have HHI : Hid (∀ k, Rc.hi b k < 256 ^ k) := Rc.hi_lt HL8.out
        rw [show ((32 : Nat) : Int) = (32 : Int) from rfl]
        clear hk h32
        go_wp2
        go_loopw [6] (fun i wr => ∃ (k : Nat) (ii : Int), k ≤ 8 ∧ ii = 7 - (k : Int) ∧ i = .int .i64 ii ∧ Hid (Rw wr z0 27 N) ∧ Hid (Rw wr z1 27 (rcC ⟨d, Rc.hi b k, 0, []⟩ (.slice none 0 0))) ∧ Hid (Below w.heap.size w wr)) (fun i _ => (intOf i + 1).toNat)
        case atStart => exact ⟨0, 7, by omega, by omega, rfl, HA.out, HL.out, HB.out⟩
        case round =>
          obtain ⟨k, ii, hk, hii, rfl, HA, HL, HB⟩ := hrel
          by_cases h8 : k < 8
          · obtain ⟨j, hj⟩ : ∃ j, 39 - k = j := ⟨_, rfl⟩
            obtain ⟨x, hx⟩ : ∃ x, b[j]? = some x := ⟨_, List.getElem?_eq_getElem (by omega)⟩
            have hx8 : x < 256 := HL8.out x (List.mem_of_getElem? hx)
            have c0 := HC.out _ HB.out j x hx
            have h56 : Rc.hi b k < 256 ^ 7 := Nat.lt_of_lt_of_le (HHI.out k) (Nat.pow_le_pow_right (by omega) (by omega))
            have hn64 : Rc.hi b k < 18446744073709551616 := by simp only [Nat.reducePow] at h56; omega
            have hsu : Rc.hi b (k + 1) = 256 * Rc.hi b k + x := by
              rw [Rc.hi, hj, List.getD_eq_getElem?_getD, hx]; rfl
            have hset := rcC_setId (r := ⟨d, Rc.hi b k, 0, []⟩) (t := .slice none 0 0) HDL.out (Rc.hi b (k + 1))
            have cv := (HL.out.cell 32).trans (rcC_id (HDF.out (Rc.hi b k) 0 [] hn64 (by unfold I64; omega)))
            have cf := HL.out.frozen 32
            obtain ⟨n, hn⟩ : ∃ n, Rc.hi b k = n := ⟨_, rfl⟩
            rw [hn] at HL hsu h56 cv hset
            rw [hsu] at hset
            have HST := Lib.hid hset
            have HSU := Lib.hid hsu
            simp only [Nat.reducePow] at h56
            have m1 : IntKind.u64.wrap (256 * (n : Int)) = 256 * (n : Int) := by rw [IntKind.wrap_u64]; omega
            have m2 : IntKind.u64.wrap (256 * (n : Int) + (x : Int)) = 256 * (n : Int) + (x : Int) := by rw [IntKind.wrap_u64]; omega
            have g0 : 0 ≤ ii := by omega
            have a1 : (32 : Int) + ii = (j : Int) := by omega
            have a2 : IntKind.i64.wrap (j : Int) = (j : Int) := by rw [IntKind.wrap_i64]; omega
            have a5 : (0 : Int) ≤ (j : Int) := by omega
            have a3 : (j : Int) < (b.length : Int) := by omega
            have a4 : IntKind.i64.wrap (ii - 1) = ii - 1 := by rw [IntKind.wrap_i64]; omega
            have HII := Lib.hid hii
            clear hn hx hj hset hsu hn64 hii
            go_wp2
            go_still_tail 11, (by kernel_rfl)
            change wpList _ _ _ _ _ wr.drew
            go_wp2
            have hd' := HL.out.drew.set 32 (.int .u64 ((256 * n + x : Nat) : Int))
            rw [HST.out] at hd'
            have e1 : ((256 * n + x : Nat) : Int) = 256 * (n : Int) + (x : Int) := by omega
            rw [e1] at hd'
            rw [← HSU.out] at hd'
            exact ⟨⟨k + 1, ii - 1, by omega, by have := HII.out; omega, rfl, HA.out.drew.setOther (by have := HZ.out; omega) _ _, hd', HB.out.drew.setCell (show w.heap.size ≤ z1 by have := HZ.out; omega) _⟩, by simp [intOf]; omega⟩
          · obtain rfl : k = 8 := by omega
            obtain rfl : ii = -1 := by omega
            clear hk h8 hii
            have HH8 : Hid (Rc.hi b 8 < 18446744073709551616) := by have := HHI.out 8; unfold Hid; simpa using this
            obtain ⟨n8, hn8⟩ : ∃ n, Rc.hi b 8 = n := ⟨_, rfl⟩
            rw [hn8] at HL HH8
            have HN8 := Lib.hid hn8
            clear hn8
            have HLV : Hid (Bv wr B (.slice (some ⟨bb, off, none⟩) b.length c) b) := H0.out.below_ HB.out HBB.out
            have HCN := Lib.hid (rcount_any _ b B 40 4096 wr HLV.out (by omega))
            have HZr : Hid (w.heap.size ≤ wr.heap.size ∧ B ≤ wr.heap.size ∧ z0 < wr.heap.size ∧ z1 < wr.heap.size) := ⟨HB.out.size, Nat.le_trans HBB.out HB.out.size, HA.out.lt, HL.out.lt⟩
            rcases Mt.count_cases HL8.out 40 4096 with ⟨e, he2, he5, hr⟩ | ⟨k0, m, r, hk0', hk0, hbn, hs, hle, hr, hm⟩
            · have HE := Lib.hid (Rc.getE_cnt H40.out hr (by omega))
              rw [hr] at HCN
              have hq : ((e : Int) != 0) = true := by rw [bne_iff_ne]; omega
              clear hr he2 he5
              go_wp2_with fail
              ((with_reducible refine HCN.out.mono ?_); rintro e' w2 ⟨rfl, hb2⟩)
              have HR2 : Hid (Rw w2 z0 27 N) := HA.out.below hb2 HZr.out.2.2.1
              have HB2 := Lib.hid (HB.out.trans (hb2.mono HZr.out.1))
              clear HCN hb2
              go_wp2_with (first
                | (refine wpList_build_at rfl 27 _ rfl N hb0 ?_)
                | (refine wpList_store_row rfl _ _ _ rfl z0 N rfl rfl 27 _ HR2.out hsz rfl hone ?_))
              exact IsRE.ret0 rfl hN rfl rfl rfl (Rw.row HR2.out N) HE.out rfl (below_setRow HB2.out (by have := HZ.out; omega) _)
            · obtain rfl : k0 = 40 := by omega
              obtain ⟨nx, hnx⟩ : ∃ nx, 40 + (Mt.put m).length = nx := ⟨_, rfl⟩
              rw [hnx] at hr hle
              have HCR := Lib.hid hr
              rw [hr] at HCN
              have HM : Hid ((m : Int) ≤ 4096) := hm
              clear hr hnx hk0' hk0 hbn hs hm
              go_wp2_with fail
              ((with_reducible refine HCN.out.mono ?_); rintro e' w2 ⟨rfl, hb2⟩)
              have HR2 : Hid (Rw w2 z0 27 N) := HA.out.below hb2 HZr.out.2.2.1
              have HL2 : Hid (Rw w2 z1 27 (rcC ⟨d, n8, 0, []⟩ (.slice none 0 0))) := HL.out.below hb2 HZr.out.2.2.2
              have HB2 := Lib.hid (HB.out.trans (hb2.mono HZr.out.1))
              have cf := HL2.out.frozen 33
              have hfit := HDF.out n8 0 [] HH8.out (by unfold I64; omega)
              have co := (HL2.out.cell 33).trans (rcC_len hfit)
              have HST := Lib.hid (rcC_setLen (r := ⟨d, n8, 0, []⟩) (t := .slice none 0 0) HDL.out (m : Int))
              clear HCN hb2 hfit
              obtain ⟨W3, hW3⟩ : ∃ W3, w2.setCell ⟨z1, 33, none⟩ (.int .i64 (m : Int)) = W3 := ⟨_, rfl⟩
              have HL3 : Hid (Rw W3 z1 27 (rcC ⟨d, n8, m, []⟩ (.slice none 0 0))) := by
                have h := HL2.out.set 33 (.int .i64 (m : Int))
                rw [HST.out, hW3] at h
                exact h
              have HR3 : Hid (Rw W3 z0 27 N) := by
                have h := HR2.out.setOther (g' := z1) (by have := HZ.out; omega) 33 (.int .i64 (m : Int))
                rw [hW3] at h
                exact h
              have HB3 : Hid (Below w.heap.size w W3) := by
                have h := HB2.out.setCell (p := ⟨z1, 33, none⟩) (show w.heap.size ≤ z1 by have := HZ.out; omega) (.int .i64 (m : Int))
                rw [hW3] at h
                exact h
              have HLV3 : Hid (Bv W3 B (.slice (some ⟨bb, off, none⟩) b.length c) b) := H0.out.below_ HB3.out HBB.out
              have HG := Lib.hid (rpget_any _ b B (nx : Nat) W3 (Nat.le_trans HBB.out HB3.out.size) HLV3.out)
              have HZ3 : Hid (w.heap.size ≤ W3.heap.size ∧ z0 < W3.heap.size ∧ z1 < W3.heap.size) := ⟨HB3.out.size, HR3.out.lt, HL3.out.lt⟩
              obtain ⟨⟨l, j, e⟩, hg⟩ : ∃ x, Pk.getE b (nx : Nat) = x := ⟨_, rfl⟩
              have HGE := Lib.hid hg
              rw [hg] at HG
              clear hg
              clear HL2 HR2 HST
              go_wp2_with fail
              ((with_reducible refine HG.out.mono ?_); rintro e' w4 ⟨A4, c4, rfl, ho, hb4⟩)
              have HR4 : Hid (Rw w4 z0 27 N) := HR3.out.below hb4 HZ3.out.2.1
              have HL4 : Hid (Rw w4 z1 27 (rcC ⟨d, n8, m, []⟩ (.slice none 0 0))) := HL3.out.below hb4 HZ3.out.2.2
              have HB4 := Lib.hid (HB3.out.trans (hb4.mono HZ3.out.1))
              have HO4 := Lib.hid ho
              clear HG hb4 ho co cf hW3 HL3 HR3 HB3
              by_cases he : e = 0
              · subst he
                by_cases hj : j = b.length
                · have HE := Lib.hid (Rc.getE_ok H40.out HCR.out HGE.out hj)
                  have hq : (((j : Nat) : Int) != (b.length : Int)) = false := by rw [bne_eq_false_iff_eq]; omega
                  have cf := HL4.out.frozen 34
                  have hfit := HDF.out n8 m l HH8.out (by have := HM.out; unfold I64; omega)
                  have HST := Lib.hid (rcC_setToks (r := ⟨d, n8, m, []⟩) (t := .slice none 0 0) HDL.out (.slice A4 l.length c4))
                  have co := (HL4.out.cell 34).trans (rcC_toks (HDF.out n8 m [] HH8.out (by have := HM.out; unfold I64; omega)))
                  obtain ⟨W5, hW5⟩ : ∃ W5, w4.setCell ⟨z1, 34, none⟩ (.slice A4 l.length c4) = W5 := ⟨_, rfl⟩
                  have HL5 : Hid (Rw W5 z1 27 (rcC ⟨d, n8, m, l⟩ (.slice A4 l.length c4))) := by
                    have h := HL4.out.set 34 (.slice A4 l.length c4)
                    rw [HST.out, hW5] at h
                    exact h
                  have HR5 : Hid (Rw W5 z0 27 N) := by
                    have h := HR4.out.setOther (g' := z1) (by have := HZ.out; omega) 34 (.slice A4 l.length c4)
                    rw [hW5] at h
                    exact h
                  have HB5 : Hid (Below w.heap.size w W5) := by
                    have h := HB4.out.setCell (p := ⟨z1, 34, none⟩) (show w.heap.size ≤ z1 by have := HZ.out; omega) (.slice A4 l.length c4)
                    rw [hW5] at h
                    exact h
                  have HFT := Lib.hid hfit
                  have hsz' : (Try.prog.info? 27).map (·.size) = some (rcC ⟨d, n8, m, l⟩ (.slice A4 l.length c4)).size := rc_sizeof hfit
                  have hone' : (rcC ⟨d, n8, m, l⟩ (.slice A4 l.length c4)).all (·.oneCell') = true := rcC_one rfl
                  obtain ⟨C, hC⟩ : ∃ C, rcC ⟨d, n8, m, l⟩ (.slice A4 l.length c4) = C := ⟨_, rfl⟩
                  rw [hC] at HL5 hsz' hone'
                  clear hj hfit HST HL4 HR4
                  go_wp2_with (first
                    | (refine wpList_load_row rfl _ _ rfl z1 rfl 27 C (0, 0) _ HL5.out Try.underlying27 rfl (by rw [hsz']) ?_)
                    | (refine wpList_store_row rfl _ _ _ rfl z0 C rfl rfl 27 _ HR5.out hsz' (by rw [HNS.out, ← hC, rcC_size HFT.out]) hone' ?_))
                  have HE2 : Rc.getE b = (⟨d, n8, m, l⟩, 0) := by rw [HE.out, hd, HN8.out]
                  have hlt := HZ3.out
                  have hzz := HZ.out
                  have hown : OwnL iK (W5.setRow z0 C) W3.heap.size (.slice A4 l.length c4) l := HO4.out.of_block (fun k hk => by
                    have := (HO4.out.lt_ k hk).1
                    rw [setRow_other _ _ _ _ (by omega), ← hW5]
                    exact setCell_block _ _ _ _ _ (by omega))
                  subst hC
                  refine IsRE.ret1 (A := A4) (c := c4) (g := z0) (y := ⟨d, n8, m, l⟩) (p := 2) (u1 := 3) ?_ ?_ ?_ ?_ (Rw.row HR5.out _) HE2 HFT.out (hown.mono_ HZ3.out.1) (below_setRow HB5.out (by omega) _)
                  all_goals rfl
                · have HE := Lib.hid (Rc.getE_form H40.out HCR.out HGE.out hj)
                  have hq : (((j : Nat) : Int) != (b.length : Int)) = true := by rw [bne_iff_ne]; omega
                  clear hj
                  go_wp2_with (first
                    | (refine wpList_build_at rfl 27 _ rfl N hb0 ?_)
                    | (refine wpList_store_row rfl _ _ _ rfl z0 N rfl rfl 27 _ HR4.out hsz rfl hone ?_))
                  exact IsRE.ret0 rfl hN rfl rfl rfl (Rw.row HR4.out N) HE.out rfl (below_setRow HB4.out (by have := HZ.out; omega) _)
              · have HE := Lib.hid (Rc.getE_row H40.out HCR.out HGE.out he)
                have hq : ((e : Int) != 0) = true := by rw [bne_iff_ne]; omega
                clear he
                go_wp2_with (first
                  | (refine wpList_build_at rfl 27 _ rfl N hb0 ?_)
                  | (refine wpList_store_row rfl _ _ _ rfl z0 N rfl rfl 27 _ HR4.out hsz rfl hone ?_))
                exact IsRE.ret0 rfl hN rfl rfl rfl (Rw.row HR4.out N) HE.out rfl (below_setRow HB4.out (by have := HZ.out; omega) _)
end Go.Proofs.Ytkialijipcbgkaa
namespace Go.Proofs.Ytkialijipcbgkaa.Rc
def ofE (P : List Vo.Pc) (id : Nat) (b : List Nat) : Rec × Nat :=
  if Vo.May P then (if 4096 < b.length then (zero, 12) else (⟨Sh.sum b, id, (b.length : Nat), Bp.enc P b⟩, 0)) else (zero, 11)
def docE (P : List Vo.Pc) (r : Rec) : List Nat × Nat :=
  if (Bp.decE P r.toks).2 ≠ 0 then ([], (Bp.decE P r.toks).2)
  else if ((Bp.decE P r.toks).1.length : Int) ≠ r.len then ([], 6)
  else if Sh.sum (Bp.decE P r.toks).1 ≠ r.dig then ([], 6)
  else ((Bp.decE P r.toks).1, 0)
def rightE (P : List Vo.Pc) (r : Rec) : Bool := decide ((docE P r).2 = 0 ∧ (Bp.encE P (docE P r).1).1 = r.toks)
section
variable {P : List Vo.Pc} {r : Rec} {id : Nat} {b : List Nat}
theorem ofE_no (h : ¬ Vo.May P) : ofE P id b = (zero, 11) := if_neg h
theorem ofE_long (h : Vo.May P) (hb : 4096 < b.length) : ofE P id b = (zero, 12) := by unfold ofE; rw [if_pos h, if_pos hb]
theorem ofE_ok (h : Vo.May P) (hb : ¬ 4096 < b.length) : ofE P id b = (⟨Sh.sum b, id, (b.length : Nat), Bp.enc P b⟩, 0) := by unfold ofE; rw [if_pos h, if_neg hb]
theorem docE_err {l : List Nat} {e : Nat} (h : Bp.decE P r.toks = (l, e)) (he : e ≠ 0) : docE P r = ([], e) := by unfold docE; rw [h, if_pos he]
theorem docE_len {l : List Nat} (h : Bp.decE P r.toks = (l, 0)) (hl : (l.length : Int) ≠ r.len) : docE P r = ([], 6) := by
  unfold docE; rw [h, if_neg (by simp), if_pos hl]
theorem docE_sum {l : List Nat} (h : Bp.decE P r.toks = (l, 0)) (hl : (l.length : Int) = r.len) (hs : Sh.sum l ≠ r.dig) : docE P r = ([], 6) := by
  unfold docE; rw [h, if_neg (by simp), if_neg (by simpa using hl), if_pos hs]
theorem docE_ok {l : List Nat} (h : Bp.decE P r.toks = (l, 0)) (hl : (l.length : Int) = r.len) (hs : Sh.sum l = r.dig) : docE P r = (l, 0) := by
  unfold docE; rw [h, if_neg (by simp), if_neg (by simpa using hl), if_neg (by simpa using hs)]
theorem docE_cases (P : List Vo.Pc) (r : Rec) : (∃ l, docE P r = (l, 0) ∧ Bp.decE P r.toks = (l, 0) ∧ (l.length : Int) = r.len ∧ Sh.sum l = r.dig) ∨ ∃ e, e ≠ 0 ∧ docE P r = ([], e) := by
  obtain ⟨⟨l, e⟩, h⟩ : ∃ x, Bp.decE P r.toks = x := ⟨_, rfl⟩
  by_cases he : e = 0
  · subst he
    by_cases hl : (l.length : Int) = r.len
    · by_cases hs : Sh.sum l = r.dig
      · exact .inl ⟨l, docE_ok h hl hs, h, hl, hs⟩
      · exact .inr ⟨6, by omega, docE_sum h hl hs⟩
    · exact .inr ⟨6, by omega, docE_len h hl⟩
  · exact .inr ⟨e, he, docE_err h he⟩
theorem dec_cases (P : List Vo.Pc) (l : List Int) : (∃ b, Bp.decE P l = (b, 0) ∧ b.length ≤ 4096 ∧ Vo.May P) ∨ ∃ e, e ≠ 0 ∧ Bp.decE P l = ([], e) := by
  unfold Bp.decE
  by_cases h1 : Vo.May P
  · rw [if_pos h1]
    by_cases h2 : Bp.Toks P l
    · rw [if_pos h2]
      by_cases h3 : 4096 < (Bp.textL P l).length
      · rw [if_pos h3]; exact .inr ⟨3, by omega, rfl⟩
      · rw [if_neg h3]; exact .inl ⟨_, rfl, by omega, h1⟩
    · rw [if_neg h2]; exact .inr ⟨2, by omega, rfl⟩
  · rw [if_neg h1]; exact .inr ⟨11, by omega, rfl⟩
theorem rightE_no {e : Nat} (h : docE P r = ([], e)) (he : e ≠ 0) : rightE P r = false := by
  unfold rightE; rw [h]; simp [he]
theorem rightE_of {l : List Nat} {m : List Int} {e : Nat} (h : docE P r = (l, 0)) (hm : Bp.encE P l = (m, e)) : rightE P r = decide (m = r.toks) := by
  unfold rightE; rw [h]; simp [hm]
/-- What Of answers is fit to be put: its tokens are few and small. -/
theorem of_put (hm : Vo.May P) (hok : ∀ q ∈ P, q.byte < 256) (hb : ∀ c ∈ b, c < 256) (hl : b.length ≤ 4096) : ∃ y, Pk.putE (Bp.enc P b) = (y, 0) := by
  have h1 := (Vo.may_iff.1 hm).1
  have h2 : (Bp.enc P b).length ≤ b.length := Bp.enc_len
  have h3 := Bp.enc_toks hm hok hb
  unfold Pk.putE
  rw [if_neg (by omega), if_pos (fun t ht => by have := h3 t ht; unfold Pk.Tok; omega)]
  exact ⟨_, rfl⟩
/-- The document of the record of a document, and the record is right. -/
theorem doc_of (hm : Vo.May P) (hok : ∀ q ∈ P, q.byte < 256) (hb : ∀ c ∈ b, c < 256) (hl : b.length ≤ 4096) :
    docE P ⟨Sh.sum b, id, (b.length : Nat), Bp.enc P b⟩ = (b, 0) :=
  docE_ok (Bp.dec_enc hm hok hb hl) rfl rfl
theorem right_of (hm : Vo.May P) (hok : ∀ q ∈ P, q.byte < 256) (hb : ∀ c ∈ b, c < 256) (hl : b.length ≤ 4096) :
    rightE P ⟨Sh.sum b, id, (b.length : Nat), Bp.enc P b⟩ = true := by
  have h : Bp.encE P b = (Bp.enc P b, 0) := by unfold Bp.encE; rw [if_pos hm, if_neg (by omega)]
  rw [rightE_of (doc_of hm hok hb hl) h]
  simp
/-- One record, one document. -/
theorem of_one (hm : Vo.May P) (hok : ∀ q ∈ P, q.byte < 256) {a : List Nat} (ha : ∀ c ∈ a, c < 256) (hb : ∀ c ∈ b, c < 256) (hla : a.length ≤ 4096) (hl : b.length ≤ 4096)
    (h : Bp.enc P a = Bp.enc P b) : a = b := by
  have h1 := Bp.dec_enc hm hok ha hla
  rw [h, Bp.dec_enc hm hok hb hl] at h1
  simp only [Prod.mk.injEq, and_true] at h1
  exact h1.symm
end
end Go.Proofs.Ytkialijipcbgkaa.Rc
namespace Go.Proofs.Ytkialijipcbgkaa
open Go.RowKit
set_option linter.unusedVariables false

/-- The state's array, to whose first k words those of another one are added. -/
def addk (s t : Sh.St) (k : Nat) : Array Value := #[wv (if 0 < k then s.a + t.a else s.a), wv (if 1 < k then s.b + t.b else s.b), wv (if 2 < k then s.c + t.c else s.c), wv (if 3 < k then s.d + t.d else s.d), wv (if 4 < k then s.e + t.e else s.e), wv (if 5 < k then s.f + t.f else s.f), wv (if 6 < k then s.g + t.g else s.g), wv (if 7 < k then s.h + t.h else s.h)]
theorem addk_zero (s t : Sh.St) : addk s t 0 = stv s := rfl
theorem addk_end (s t : Sh.St) : addk s t 8 = stv (s.add t) := rfl
theorem addk_step (s t : Sh.St) {k : Nat} (h : k < 8) : ∃ x y, (addk s t k)[k]? = some (.int .u32 (nt x : Nat)) ∧ (stv t)[k]? = some (.int .u32 (nt y : Nat)) ∧ (addk s t k).setIfInBounds k (.int .u32 (nt (x + y) : Nat)) = addk s t (k + 1) := by
  rcases k with _|_|_|_|_|_|_|_|k
  · exact ⟨s.a, t.a, rfl, rfl, rfl⟩
  · exact ⟨s.b, t.b, rfl, rfl, rfl⟩
  · exact ⟨s.c, t.c, rfl, rfl, rfl⟩
  · exact ⟨s.d, t.d, rfl, rfl, rfl⟩
  · exact ⟨s.e, t.e, rfl, rfl, rfl⟩
  · exact ⟨s.f, t.f, rfl, rfl, rfl⟩
  · exact ⟨s.g, t.g, rfl, rfl, rfl⟩
  · exact ⟨s.h, t.h, rfl, rfl, rfl⟩
  · omega
theorem stv_size8 (s : Sh.St) : (Try.prog.info? 100).map (·.size) = some (stv s).size := by rw [stv_size]; exact size23

end Go.Proofs.Ytkialijipcbgkaa
