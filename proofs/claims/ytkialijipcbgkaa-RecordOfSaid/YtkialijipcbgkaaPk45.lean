/-
  FrameR3: From what a row says of a record (api.Record by value) to the words of this text.
  Octs: stookref00.Same answers whether two slices hold the same numbers.
  FrameB: From what a row says of a slice of bytes to a list (Lv yK).
  FrameV: From what a row says of a vocabulary (api.Vocab by value) to a list of pieces.
-/
import Derived.Test.YtkialijipcbgkaaPk44
import Derived.Test.YtkialijipcbgkaaPk33
import Derived.SizedLaws
import Derived.Test.YtkialijipcbgkaaPk07
import Derived.Test.YtkialijipcbgkaaPk01
import Derived.Deep.QuietTactic
import Derived.BigQuiet
import Derived.Test.YtkialijipcbgkaaPk02
import Derived.Test.YtkialijipcbgkaaPk10
import Derived.Test.YtkialijipcbgkaaPk03
namespace Go.Proofs.Ytkialijipcbgkaa
open Go.ChangeShapes Go.WideShapes Go.ChangeAt Go.RowKit
set_option linter.unusedVariables false
set_option maxRecDepth 100000 in
theorem one_cell {L : List Value} {o : Nat} {x : Value} (h : (L.drop o).take 1 = [x]) : L[o]? = some x := by
  have h4 := congrArg (fun l => l[0]?) h
  simpa using h4
set_option maxRecDepth 100000 in
theorem rec_in {H : Type} {enc : TypeId × Value → H} {w : World} {b : Nat} {held : Bool} {v : Value} {d : DataW H} {p : List MemPlace}
    (hok : Value.okWide Try.prog w .any b 27 v) (h : DataW.Trod enc Try.prog w 0 (fun _ => true) held 27 v d p) :
    ∃ (r : Rc.Rec) (t : Value), v = .agg (rcC r t) ∧ Rc.Fit r ∧ Lv iK w w.heap.size t r.toks ∧ ((DataW.weights Try.prog 27 d).all (· ≤ reachBytes) = true → r.toks.length * 8 ≤ reachBytes) := by
  obtain ⟨cs, rfl, hsz⟩ := okWide_struct Try.underlying27 hok
  have hsz35 : cs.size = 35 := hsz.trans (by kernel_rfl)
  obtain ⟨fuel, hf⟩ := h
  obtain ⟨xs, m, _, hxe, hl, hlen, hx⟩ := DataW.trod_struct Try.underlying27 hf
  match xs, hlen, hxe with
  | [y0, y1, y2, y3], _, hxe =>
    have hd3 : ∀ n ∈ DataW.weights Try.prog 25 y3.1, n ∈ DataW.weights Try.prog 27 d := fun n hn => by
      have e1 : d = .agg [y0.1, y1.1, y2.1, y3.1] := by simpa using congrArg Prod.fst hxe
      subst e1
      unfold DataW.weights
      rw [Try.underlying27]
      exact DataW.weights_mem_each (ts := [23, 24, 3, 25]) (ds := [y0.1, y1.1, y2.1, y3.1]) (j := 3) rfl rfl n hn
    have f0 : DataW.trod enc Try.prog w 0 (fun _ => true) held m 23 ((cs.toList.drop 0).take (Try.prog.cellsOf 23)) = some y0 := hx 0 _ rfl
    have f1 : DataW.trod enc Try.prog w 0 (fun _ => true) held m 24 ((cs.toList.drop 32).take (Try.prog.cellsOf 24)) = some y1 := hx 1 _ rfl
    have f2 : DataW.trod enc Try.prog w 0 (fun _ => true) held m 3 ((cs.toList.drop 33).take (Try.prog.cellsOf 3)) = some y2 := hx 2 _ rfl
    have f3 : DataW.trod enc Try.prog w 0 (fun _ => true) held m 25 ((cs.toList.drop 34).take (Try.prog.cellsOf 25)) = some y3 := hx 3 _ rfl
    have c32 : Try.prog.cellsOf 23 = 32 := by kernel_rfl
    have cu : Try.prog.cellsOf 5 = 1 := by kernel_rfl
    have cw : Try.prog.cellsOf 24 = 1 := by kernel_rfl
    have ci : Try.prog.cellsOf 3 = 1 := by kernel_rfl
    have cl : Try.prog.cellsOf 25 = 1 := by kernel_rfl
    obtain ⟨xs0, m0, _, _, _, hxl, hel⟩ := DataW.trod_array Try.underlying23 f0
    have each : ∀ i, i < 32 → ∃ z : Int, cs.toList[i]? = some (.int .u8 z) ∧ (0 ≤ z ∧ z ≤ 255) := by
      intro i hi
      have h1 := hel i hi
      rw [cu, Nat.mul_one, List.getElem?_eq_getElem (by omega)] at h1
      obtain ⟨z, h2, _, h3⟩ := DataW.trod_int Try.underlying5 h1
      refine ⟨z, ?_, bounds_u8 h3⟩
      have h4 := one_cell h2
      rw [List.getElem?_take, List.getElem?_drop] at h4
      split at h4
      · simpa using h4
      · cases h4
    rw [cw] at f1
    rw [ci] at f2
    rw [cl] at f3
    obtain ⟨z1, g1, _, b1⟩ := DataW.trod_int Try.underlying24 f1
    obtain ⟨z2, g2, _, b2⟩ := DataW.trod_int Try.underlying3 f2
    have hz1 := bounds_u64 b1
    have hz2 := bounds_i64 b2
    have h3 : ∃ a n c, (cs.toList.drop 34).take 1 = [.slice a n c] ∧ ∃ l : List Int, l.length = n ∧ Lv iK w w.heap.size (.slice a n c) l ∧ ((∀ k ∈ DataW.weights Try.prog 25 y3.1, k ≤ reachBytes) → l.length * 8 ≤ reachBytes) := by
      rcases open_ints Try.underlying25 Try.underlying3 (by kernel_rfl) f3 with ⟨hcs, _⟩ | ⟨x, l, c, zs, hcs, _, hl, hm, hz, hx3, hcell, hwz⟩
      · obtain ⟨l, h1, h2⟩ := ints_in (w := w) (.inl ⟨rfl, rfl, rfl⟩)
        exact ⟨none, 0, 0, hcs, l, h1, h2, fun _ => by rw [h1]; simp⟩
      · obtain ⟨l', h1, h2⟩ := ints_in (w := w) (.inr ⟨x, zs, rfl, hl, hm, by simpa using hz, hcell, hwz⟩)
        refine ⟨some x, l, c, hcs, l', h1, h2, fun hk => ?_⟩
        have e3 : y3.1 = .slice (lits .i64 (zs.take l)) (lits .i64 (zs.drop l)) := congrArg Prod.fst hx3
        have hs := hk ((l + (zs.length - l)) * Try.prog.bytesOf 3) (by
          rw [e3]
          unfold DataW.weights
          rw [Try.underlying25]
          have hzl : l ≤ zs.length := by simp at hz; omega
          refine List.mem_cons.2 (.inl ?_)
          simp [lits, Nat.min_eq_left hzl])
        have hb : Try.prog.bytesOf 3 = 8 := by kernel_rfl
        rw [hb] at hs
        rw [h1]
        have hzl : l ≤ zs.length := by simp at hz; omega
        omega
    obtain ⟨a, n, c, g3, l, hn, hLv, hWt⟩ := h3
    have e1 := one_cell g1
    have e2 := one_cell g2
    have e3 := one_cell g3
    refine ⟨⟨(cs.toList.take 32).map fun v => (numOf v).toNat, z1.toNat, z2, l⟩, .slice a n c, ?_, ?_, hLv, fun h => hWt fun k hk => by simpa using List.all_eq_true.1 h k (hd3 k hk)⟩
    · congr 1
      have hf0 : Rc.Fit ⟨(cs.toList.take 32).map fun v => (numOf v).toNat, z1.toNat, z2, l⟩ := by
        refine ⟨by simp; omega, ?_, by simp; omega, by unfold I64; simp; omega⟩
        intro x hx
        obtain ⟨v, hv, rfl⟩ := List.mem_map.1 hx
        obtain ⟨i, hi⟩ := List.getElem?_of_mem hv
        rw [List.getElem?_take] at hi
        split at hi
        · obtain ⟨z, hz, hb⟩ := each i (by assumption)
          rw [hz] at hi
          injection hi with hi
          subst hi
          simp only [numOf]
          omega
        · cases hi
      apply Array.ext_getElem?
      intro i
      by_cases h32 : i < 32
      · obtain ⟨z, hz, hb⟩ := each i h32
        have hq : ((cs.toList.take 32).map fun v => (numOf v).toNat)[i]? = some z.toNat := by
          rw [List.getElem?_map, List.getElem?_take, if_pos h32, hz]; rfl
        have := rcC_dig (t := .slice a n c) hf0 hq
        rw [this, ← Array.getElem?_toList, hz]
        congr 2
        omega
      · by_cases h35 : i < 35
        · have hi : i = 32 ∨ i = 33 ∨ i = 34 := by omega
          rcases hi with rfl | rfl | rfl
          · rw [rcC_id hf0, ← Array.getElem?_toList, e1]
            congr 2
            show z1 = ((z1.toNat : Nat) : Int)
            omega
          · rw [rcC_len hf0, ← Array.getElem?_toList, e2]
          · rw [rcC_toks hf0, ← Array.getElem?_toList, e3]
        · rw [Array.getElem?_eq_none (by omega), Array.getElem?_eq_none (by rw [rcC_size hf0]; omega)]
    · refine ⟨by simp; omega, ?_, by simp; omega, by unfold I64; simp; omega⟩
      intro x hx
      obtain ⟨v, hv, rfl⟩ := List.mem_map.1 hx
      obtain ⟨i, hi⟩ := List.getElem?_of_mem hv
      rw [List.getElem?_take] at hi
      split at hi
      · obtain ⟨z, hz, hb⟩ := each i (by assumption)
        rw [hz] at hi
        injection hi with hi
        subst hi
        simp only [numOf]
        omega
      · cases hi
end Go.Proofs.Ytkialijipcbgkaa
namespace Go.Proofs.Ytkialijipcbgkaa
open Go.RowKit
set_option linter.unusedVariables false

set_option maxHeartbeats 400000 in
theorem octs_ne (A A' : Option Addr) (la lb : List Nat) (c c' : Nat) (w : World) (hlen : la.length ≤ maxLen) (hlen' : lb.length ≤ maxLen) (hne : la.length ≠ lb.length) :
    Calls Try.prog 13 #[.slice A la.length c, .slice A' lb.length c'] w (IsBool false w) := by
  unfold maxLen at hlen hlen'
  have hq : (((la.length : Nat) : Int) != ((lb.length : Nat) : Int)) = true := by rw [bne_iff_ne]; omega
  go_enter Try.func13, Try.ntmps13
  go_wp2
  go_ret
  exact ⟨rfl, Below.refl _ _⟩

set_option maxHeartbeats 400000 in
theorem octs_eq (A A' : Option Addr) (la lb : List Nat) (c c' B B' : Nat) (w : World) (ha : Lv yK w B (.slice A la.length c) la) (hb : Lv yK w B' (.slice A' lb.length c') lb) (heq : la.length = lb.length) :
    Calls Try.prog 13 #[.slice A la.length c, .slice A' lb.length c'] w (IsBool (decide (la = lb)) w) := by
  have hlen : la.length ≤ 9223372036854775807 := by have := ha.len_; simp only [maxLen] at this; omega
  have hq : (((la.length : Nat) : Int) != ((lb.length : Nat) : Int)) = false := by rw [heq]; simp
  have HE := Lib.hid heq
  have hle : la.length ≤ lb.length := by omega
  have hge : lb.length ≤ la.length := by omega
  clear heq
  go_enter Try.func13, Try.ntmps13
  go_wp2
  go_loopw [5] (fun i wr => ∃ k : Nat, k ≤ la.length ∧ i = .int .i64 k ∧ Hid (la.take k = lb.take k) ∧ Below w.heap.size w wr ∧ Hid (Lv yK wr B (.slice A la.length c) la) ∧ Hid (Lv yK wr B' (.slice A' lb.length c') lb)) (fun i _ => la.length - (intOf i).toNat)
  case atStart => exact ⟨0, by omega, rfl, by simp [Hid], Below.refl _ _, ha, hb⟩
  case round =>
    obtain ⟨k, hk, rfl, HT, hbel, HA, HB⟩ := hrel
    by_cases hlt : k < la.length
    · obtain ⟨b1, o1, x, rfl, hb1, hx, hd, hcell⟩ := HA.out.byte_ hlt
      obtain ⟨b2, o2, y, rfl, hb2, hy, hd', hcell'⟩ := HB.out.byte_ (k := k) (by omega)
      have HS := Lib.hid (take_both HT.out hd hd')
      clear hd hd' ha hb hx hy
      have hlt' : k < lb.length := by omega
      by_cases hxy : x = y
      · subst hxy
        have hq2 : (((x : Nat) : Int) != ((x : Nat) : Int)) = false := by simp
        go_wp2
        go_quiet (fail)
        go_wp2
        go_roundw
        case rel => exact ⟨k + 1, by omega, by go_num, HS.out.2 (by simp), below_drewN hbel _, HA.out, HB.out⟩
        case measure => simp [intOf]; omega
      · have hq2 : (((x : Nat) : Int) != ((y : Nat) : Int)) = true := by rw [bne_iff_ne]; omega
        go_wp2
        go_quiet (fail)
        go_wp2
        go_ret
        have hne : la ≠ lb := take_unlike (fun e => hxy (HS.out.1 e))
        exact ⟨by simp [hne], below_drewN hbel _⟩
    · go_wp2
      go_ret
      have h1 : la = lb := take_whole HT.out (by omega) (by omega)
      exact ⟨by simp [h1], hbel⟩

theorem octs_lv (v v' : Value) (la lb : List Nat) (B B' : Nat) (w : World) (h : Lv yK w B v la) (h' : Lv yK w B' v' lb) :
    Calls Try.prog 13 #[v, v'] w (IsBool (decide (la = lb)) w) := by
  have k := h
  have k' := h'
  obtain ⟨A, c, rfl, h1, h2, _⟩ := h
  obtain ⟨A', c', rfl, h1', h2', _⟩ := h'
  by_cases he : la.length = lb.length
  · exact octs_eq A A' la lb c c' B B' w k k' he
  · have hne : la ≠ lb := fun e => he (by rw [e])
    have := octs_ne A A' la lb c c' w (by omega) (by omega) he
    simpa [hne] using this
end Go.Proofs.Ytkialijipcbgkaa
namespace Go.Proofs.Ytkialijipcbgkaa
open Go.ChangeShapes Go.WideShapes Go.RowKit
set_option linter.unusedVariables false

theorem octs_in {H : Type} {enc : TypeId × Value → H} {w : World} {sp : Nat → Bool} {held : Bool} {fuel : Nat} {a : Option Addr} {len cap : Nat} {x : DataW H × List MemPlace} (h : DataW.trod enc Try.prog w 0 sp held fuel 28 [.slice a len cap] = some x) :
    ∃ l : List Nat, l.length = len ∧ Lv yK w w.heap.size (.slice a len cap) l :=
  lv_open yK (by kernel_rfl) (fun fuel cs x h => by
    obtain ⟨n, rfl, _, hw⟩ := DataW.trod_int Try.underlying5 h
    have hb := bounds_u8 hw
    obtain ⟨t, rfl⟩ := Int.eq_ofNat_of_zero_le hb.1
    exact ⟨t, (by show _ < _; omega), rfl⟩) h
end Go.Proofs.Ytkialijipcbgkaa
namespace Go.Proofs.Ytkialijipcbgkaa
open Go.ChangeShapes Go.WideShapes Go.RowKit Go.Deep
set_option linter.unusedVariables false

/-- The pieces of a vocabulary by value. -/
theorem pieces_field (u : Value) (w : World) : (Instr.field 41 (.agg #[u]) 0).run Try.prog w = .ok u w := by
  simp [Instr.field, go_sem, part, run_underlying Try.underlying41, asAgg]
theorem bounds_i64' {a : Int} (h : (Lit.int .i64 a).wf = true) : I64 a := by
  have := bounds_i64 h
  unfold I64
  omega
set_option maxRecDepth 100000 in
theorem voc_in {H : Type} {enc : TypeId × Value → H} {w : World} {b : Nat} {sp : Nat → Bool} {held : Bool} {v : Value} {d : DataW H} {p : List MemPlace}
    (hok : Value.okWide Try.prog w .any b 41 v) (h : DataW.Trod enc Try.prog w 0 sp held 41 v d p) : ∃ (u : Value) (l : List Vo.Pc), v = .agg #[u] ∧ Lv pK w w.heap.size u l := by
  obtain ⟨cs, rfl, hsz⟩ := okWide_struct Try.underlying41 hok
  obtain ⟨fuel, hf⟩ := h
  obtain ⟨hl, hx⟩ := dec_fields Try.underlying41 (by kernel_rfl) (by kernel_rfl) hf
  obtain ⟨n0, v0, y0, h0, g0⟩ := hx 0 _ rfl
  have hsz1 : cs.size = 1 := hl
  have hcs : cs = #[v0] := by
    apply Array.ext_getElem?
    intro i
    cases i with
    | zero => simpa [Value.cells] using h0
    | succ i => rw [Array.getElem?_eq_none (by omega), Array.getElem?_eq_none (by simp)]
  subst hcs
  have hv0 : ∃ a n c, v0 = .slice a n c := by
    rcases open_slice Try.underlying39 g0 with ⟨h1, _⟩ | ⟨_, _, _, _, _, _, _, h1, _⟩
    · exact ⟨_, _, _, by simpa using h1⟩
    · exact ⟨_, _, _, by simpa using h1⟩
  obtain ⟨a, n, c, rfl⟩ := hv0
  obtain ⟨l, _, hb⟩ := pieces_in g0
  exact ⟨_, l, rfl, hb⟩
end Go.Proofs.Ytkialijipcbgkaa
