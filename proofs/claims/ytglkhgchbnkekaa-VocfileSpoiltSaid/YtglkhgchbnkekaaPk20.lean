/-
  RVfF: stookref09.begins.
  RVfG: stookref09.Get: the vocabulary of bytes.
  ShMath: Plain mathematics of chapter 4 (sha): words of 32 bits, a block pressed, what stands behind bytes. No Go in sight.
-/
import Derived.Test.YtglkhgchbnkekaaPk19
import Derived.Test.YtglkhgchbnkekaaPk14
import Derived.Test.YtglkhgchbnkekaaPk18
import Derived.Test.YtglkhgchbnkekaaPk06
namespace Go.Proofs.Ytglkhgchbnkekaa
open Go.RowKit
set_option linter.unusedVariables false

theorem magic_at {k : Nat} (hk : k < 6) (w : World) : (Instr.index 9 (.string { data := #[115, 116, 111, 111, 107, 118] }) (.int .i64 (k : Nat))).run Try.prog w = .ok (.int .u8 (Vf.magic.getD k 0 : Nat)) w := by
  have h' : k = 0 ∨ k = 1 ∨ k = 2 ∨ k = 3 ∨ k = 4 ∨ k = 5 := by omega
  rcases h' with rfl | rfl | rfl | rfl | rfl | rfl <;> simp [go_sem, Instr.index] <;> rfl
theorem magic_get {k : Nat} (hk : k < 6) : Vf.magic[k]? = some (Vf.magic.getD k 0) := by
  rw [List.getD_eq_getElem?_getD, List.getElem?_eq_getElem (show k < Vf.magic.length from hk)]; rfl

set_option maxHeartbeats 2000000 in
theorem rvbegins_any (v : Value) (l : List Nat) (B : Nat) (w : World) (hv : Lv yK w B v l) (hB : B ≤ w.heap.size) :
    Calls Try.prog 34 #[v] w (IsBool (decide (l.take 6 = Vf.magic)) w) := by
  obtain ⟨A, c, rfl, h1, h2, -, -, -⟩ := id hv
  have hm : l.length ≤ 9223372036854775807 := by simp only [maxLen] at h2; omega
  clear h1 h2
  by_cases h6 : l.length < 6
  · have g6 : (l.length : Int) < 6 := by omega
    have HX : Hid (decide (l.take 6 = Vf.magic) = false) := by
      unfold Hid
      rw [decide_eq_false_iff_not]
      intro e
      have := congrArg List.length e
      rw [List.length_take, Vf.magic_len] at this
      omega
    clear hv
    go_enter Try.func34, Try.ntmps34
    go_wp2
    go_ret
    exact ⟨by rw [HX.out]; rfl, Below.refl _ _⟩
  · have g6 : ¬ (l.length : Int) < 6 := by omega
    have HV := Lib.hid hv
    have HBB := Lib.hid hB
    have hl6 : 6 ≤ l.length := by omega
    clear hv hB h6
    go_enter Try.func34, Try.ntmps34
    go_wp2
    go_loopw [3] (fun i wr => ∃ k : Nat, k ≤ 6 ∧ i = .int .i64 k ∧ Hid (l.take k = Vf.magic.take k) ∧ Below w.heap.size w wr) (fun i _ => 6 - (intOf i).toNat)
    case atStart => exact ⟨0, by omega, rfl, by simp [Hid], Below.refl _ _⟩
    case round =>
      obtain ⟨k, hk, rfl, HT, hbel⟩ := hrel
      have HBL := Lib.hid hbel
      by_cases hlt : k < 6
      · obtain ⟨b, o, x, rfl, hb1, hx, hd, hcell⟩ := (HV.out.below_ hbel HBB.out).byte_ (k := k) (by omega)
        have hix := fun w => magic_at hlt w
        have HS := Lib.hid (take_both HT.out hd (magic_get hlt))
        obtain ⟨y, hy⟩ : ∃ y, Vf.magic.getD k 0 = y := ⟨_, rfl⟩
        rw [hy] at hix HS
        have g1 : (k : Int) < 6 := by omega
        have g2 : (k : Int) < (l.length : Int) := by omega
        clear hd hx hy hbel
        by_cases hxy : x = y
        · subst hxy
          have hq2 : (((x : Nat) : Int) != ((x : Nat) : Int)) = false := by simp
          go_wp2
          go_quiet (fail)
          go_wp2
          go_roundw
          case rel => exact ⟨k + 1, by omega, by go_num, HS.out.2 (by simp), below_drewN HBL.out _⟩
          case measure => simp [intOf]; omega
        · have hq2 : (((x : Nat) : Int) != ((y : Nat) : Int)) = true := by rw [bne_iff_ne]; omega
          go_wp2
          go_quiet (fail)
          go_wp2
          go_ret
          have hne : l.take 6 ≠ Vf.magic := fun e => hxy (HS.out.1 (by
            have e2 := congrArg (List.take (k + 1)) e
            rwa [List.take_take, Nat.min_eq_left (by omega)] at e2))
          exact ⟨by simp [hne], below_drewN HBL.out _⟩
      · have g1 : ¬ (k : Int) < 6 := by omega
        obtain rfl : k = 6 := by omega
        have HX : Hid (decide (l.take 6 = Vf.magic) = true) := decide_eq_true HT.out
        clear hbel
        go_wp2
        go_ret
        exact ⟨by rw [HX.out]; rfl, HBL.out⟩
end Go.Proofs.Ytglkhgchbnkekaa
namespace Go.Proofs.Ytglkhgchbnkekaa
open Go.RowKit
set_option linter.unusedVariables false
open Vf (Rd)

/-- Pieces with their places, as two own lists that lie apart. -/
structure Vf.Two (w : World) (vb base : Nat) (s : Value) (k : Nat) (Q : List (Vo.Pc × Nat)) (A1 : Option Addr) (c1 : Nat) (A2 : Option Addr) (c2 : Nat) : Prop where
  len : Q.length = k
  at_ : s = .slice A1 k c1
  places : OwnL iK w base (.slice A1 k c1) (Q.map fun q => ((q.2 : Nat) : Int))
  box : w.heap[vb]? = some (.cells #[.slice A2 k c2] 24 (0, 0))
  pieces : OwnL pK w base (.slice A2 k c2) (Q.map Prod.fst)
  apart : Apart (.slice A1 k c1) (.slice A2 k c2)
theorem IsVG.results_voc {fn : Func} {p u1 u2 : Tmp} (h : fn.results = #[.cell p 24, .tmp u1, .tmp u2]) (tmps : Array Value) (w : World) (g : Nat) (u x y : Value) (t : TypeId)
    (hp : tmps.getD p undef = .pointer (some ⟨g, 0, none⟩)) (hx : tmps.getD u1 undef = x) (hy : tmps.getD u2 undef = y) (hg : w.heap[g]? = some (.cells #[u] t (0, 0))) :
    (results fn tmps).run Try.prog w = .ok (.tuple #[.agg #[u], x, y]) w := by
  have hp' : tmps[p]?.getD undef = .pointer (some ⟨g, 0, none⟩) := by simpa using hp
  have hx' : tmps[u1]?.getD undef = x := by simpa using hx
  have hy' : tmps[u2]?.getD undef = y := by simpa using hy
  simp [results, h, hp', hx', hy', asAddr, run_loadVar_row w g t _ _ (0, 0) _ hg Try.underlying24 rfl (by kernel_rfl)]
/-- A call that answers these pieces as a vocabulary in new memory, a place and an error. -/
def IsVG (r : List Vo.Pc × Nat × Nat) (w : World) (e : Ending) (w' : World) : Prop :=
  ∃ A c, e = .returned (.tuple #[.agg #[.slice A r.1.length c], .int .i64 (r.2.1 : Nat), .int .i64 (r.2.2 : Nat)]) ∧ OwnL pK w' w.heap.size (.slice A r.1.length c) r.1 ∧ Below w.heap.size w w'
theorem IsVG.none_ {r : List Vo.Pc × Nat × Nat} {x y : Nat} {w w' : World} (h : r = ([], x, y)) (hb : Below w.heap.size w w') : IsVG r w (.returned (.tuple #[.agg #[.slice none 0 0], .int .i64 (x : Nat), .int .i64 (y : Nat)])) w' := by
  subst h; exact ⟨none, 0, rfl, OwnL.nil_ _ _ _, hb⟩

namespace Vf
/-- How far the reading of n pieces has come. -/
def Prog (l : List Nat) (n k : Nat) (Q : List (Vo.Pc × Nat)) (a : Nat) : Prop :=
  ∃ a0, num l 6 4096 = .got n a0 ∧ rdPcs n l a0 = (rdPcs (n - k) l a).then fun Q' a2 => .got (Q ++ Q') a2
theorem Prog.start {l : List Nat} {n a0 : Nat} (h : num l 6 4096 = .got n a0) : Prog l n 0 [] a0 := by
  refine ⟨a0, h, ?_⟩
  rw [Nat.sub_zero]
  cases rdPcs n l a0 <;> simp [R.then]
theorem Prog.step {l : List Nat} {n k a a1 : Nat} {Q : List (Vo.Pc × Nat)} {p : Vo.Pc} (h : Prog l n k Q a) (hk : k < n) (hp : rdPc l a = .got p a1) : Prog l n (k + 1) (Q ++ [(p, a)]) a1 := by
  obtain ⟨a0, h1, h2⟩ := h
  refine ⟨a0, h1, ?_⟩
  rw [h2, show n - k = (n - (k + 1)) + 1 by omega, rdPcs, hp]
  simp only [R.then]
  cases rdPcs (n - (k + 1)) l a1 <;> simp
theorem Prog.bad {l : List Nat} {n k a e x : Nat} {Q : List (Vo.Pc × Nat)} (h : Prog l n k Q a) (hm : l.take 6 = magic) (hk : k < n) (hp : rdPc l a = .bad e x) : getE l = ([], x, e) := by
  obtain ⟨a0, h1, h2⟩ := h
  rw [show n - k = (n - (k + 1)) + 1 by omega, rdPcs, hp] at h2
  simp only [R.then] at h2
  unfold getE
  rw [if_neg (by simp [hm]), h1]
  simp only
  rw [h2]
theorem Prog.done {l : List Nat} {n a : Nat} {Q : List (Vo.Pc × Nat)} (h : Prog l n n Q a) : ∃ a0, num l 6 4096 = .got n a0 ∧ rdPcs n l a0 = .got Q a := by
  obtain ⟨a0, h1, h2⟩ := h
  rw [Nat.sub_self, rdPcs] at h2
  simp only [R.then, List.append_nil] at h2
  exact ⟨a0, h1, h2⟩
theorem num_state {l : List Nat} (hl : ∀ x ∈ l, x < 256) (hm : l.take 6 = magic) {n : Nat} {S : Rd} (h : numR l 4096 ⟨6, 0, 0⟩ = (n, S)) :
    (S.e = 0 ∧ S.a ≤ l.length ∧ Prog l n 0 [] S.a) ∨ (S.e ≠ 0 ∧ getE l = ([], S.x, S.e)) := by
  cases hn : num l 6 4096 with
  | bad e x =>
    rw [numR_bad (s := ⟨6, 0, 0⟩) rfl hn] at h
    injection h with h1 h2
    subst h1 h2
    refine .inr ⟨fun e0 => ?_, ?_⟩
    · have e0 : e = 0 := e0
      subst e0
      exact num_bad hn
    · unfold getE
      rw [if_neg (by simp [hm]), hn]
  | got k a =>
    rw [numR_got (s := ⟨6, 0, 0⟩) rfl hn] at h
    injection h with h1 h2
    subst h1 h2
    exact .inl ⟨rfl, (num_got hl hn).2.2.2.1, Prog.start hn⟩
end Vf

theorem yK_el : Try.prog.elem yK.s = yK.e := by kernel_rfl

set_option maxHeartbeats 8000000 in
set_option maxRecDepth 100000 in
theorem rvget_any (v : Value) (l : List Nat) (B : Nat) (w : World) (hv : Lv yK w B v l) (hB : B ≤ w.heap.size) :
    Calls Try.prog 16 #[v] w (IsVG (Vf.getE l) w) := by
  obtain ⟨A, c, rfl, h1, h2, -, hok, -⟩ := id hv
  have hm : l.length ≤ 9223372036854775807 := by simp only [maxLen] at h2; omega
  have HLT : Hid (∀ x ∈ l, x < 256) := hok
  have HLC : Hid (l.length ≤ c) := h1
  obtain ⟨z, hz⟩ : ∃ z, w.heap.size = z := ⟨_, rfl⟩
  obtain ⟨W1, hW1⟩ : ∃ W, w.alloc (.cells #[.slice none 0 0] 24) = W := ⟨_, rfl⟩
  have z1 : W1.heap[z]? = some (.cells #[.slice none 0 0] 24 (0, 0)) := by rw [← hW1, ← hz]; exact heap_alloc_new w _
  have HB1 : Hid (Below z w W1) := by unfold Hid; rw [← hW1, hz.symm]; exact (Below.refl _ w).alloc (Nat.le_refl _) _
  have HV : Hid (∀ w', Below z w w' → Lv yK w' B (.slice A l.length c) l) := fun w' hb => hv.below_ hb (by omega)
  have HBZ : Hid (B ≤ z) := by unfold Hid; omega
  have HZ := Lib.hid hz
  have HZ1 := Lib.hid z1
  have HC := Lib.hid (rvbegins_any _ l B W1 (HV.out W1 HB1.out) (by have := HB1.out.size; omega))
  clear hv hB h1 h2 hok z1
  go_enter Try.func16, Try.ntmps16
  go_wp2_with (fail)
  refine (HC.out).mono ?_
  rintro e w2 ⟨rfl, hb2⟩
  have HZ2 : Hid (w2.heap[z]? = some (.cells #[.slice none 0 0] 24 (0, 0))) := (hb2.block z (Array.getElem?_eq_some_iff.1 HZ1.out).1).trans HZ1.out
  have HB2 : Hid (Below z w w2) := HB1.out.trans (hb2.mono (by have := HB1.out.size; omega))
  clear hb2 HC HZ1 HB1 hW1
  by_cases hmg : l.take 6 = Vf.magic
  · rw [decide_eq_true hmg]
    have hl6 : 6 ≤ l.length := by
      have := congrArg List.length hmg
      rw [List.length_take, Vf.magic_len] at this
      omega
    obtain ⟨g, hg⟩ : ∃ g, w2.heap.size = g := ⟨_, rfl⟩
    have HZG : Hid (z < g) := by unfold Hid; rw [← hg]; exact (Array.getElem?_eq_some_iff.1 HZ2.out).1
    obtain ⟨W3, hW3⟩ : ∃ W, w2.alloc (.cells #[.slice A l.length c, .int .i64 6, .int .i64 0, .int .i64 0] 66) = W := ⟨_, rfl⟩
    have r3 : Rdr W3 g (.slice A l.length c) ⟨6, 0, 0⟩ := by rw [← hW3, ← hg]; exact heap_alloc_new w2 _
    have HB3 : Hid (Below z w W3) := by unfold Hid; rw [← hW3]; exact HB2.out.alloc (by have := HB2.out.size; omega) _
    have HZ3 : Hid (W3.heap[z]? = some (.cells #[.slice none 0 0] 24 (0, 0))) := by unfold Hid; rw [← hW3]; exact (heap_alloc_old w2 _ (by have := HZG.out; omega)).trans HZ2.out
    have HLV : Hid (∀ w', Below z w w' → Lv yK w' g (.slice A l.length c) l) := fun w' hb => (HV.out w' hb).mono_ (by have := HZG.out; have := HBZ.out; omega)
    have HN := Lib.hid (rvnum_any g _ ⟨6, 0, 0⟩ 4096 l W3 r3 (HLV.out W3 HB3.out))
    have hle := Vf.numR_le l 4096 ⟨6, 0, 0⟩
    obtain ⟨n, S1, hr⟩ : ∃ nn ss, Vf.numR l 4096 ⟨6, 0, 0⟩ = (nn, ss) := ⟨_, _, rfl⟩
    have HST := Lib.hid (Vf.num_state HLT.out hmg hr)
    have HMG := Lib.hid hmg
    rw [hr] at HN hle
    simp only at hle
    have wn : IntKind.i64.wrap (n : Int) = (n : Int) := by rw [IntKind.wrap_i64]; omega
    clear hr r3 hmg HZ2 HB2
    go_wp2_with (fail)
    refine (HN.out).mono ?_
    rintro e w4 ⟨rfl, hr4, ht4⟩
    have HR4 := Lib.hid hr4
    have HB4 : Hid (Below z w w4) := HB3.out.trans (ht4.below (by have := HB3.out.size; omega) (fun k e => by have := HZG.out; have e : k = g := e; omega))
    have HZ4 : Hid (w4.heap[z]? = some (.cells #[.slice none 0 0] 24 (0, 0))) := (ht4.block z (Array.getElem?_eq_some_iff.1 HZ3.out).1 (fun e => by have := HZG.out; omega)).trans HZ3.out
    clear hr4 ht4 HN HB3 HZ3 hW3
    obtain ⟨vb, hvb⟩ : ∃ q, w4.heap.size = q := ⟨_, rfl⟩
    obtain ⟨W5, hW5⟩ : ∃ W, w4.alloc (.cells #[.slice none 0 0] 24) = W := ⟨_, rfl⟩
    have HGV : Hid (g < vb) := by unfold Hid; rw [← hvb]; exact HR4.out.lt_
    have HV5 : Hid (W5.heap[vb]? = some (.cells #[.slice none 0 0] 24 (0, 0))) := by unfold Hid; rw [← hW5, ← hvb]; exact heap_alloc_new w4 _
    have HR5 : Hid (Rdr W5 g (.slice A l.length c) S1) := by unfold Hid; rw [← hW5]; exact HR4.out.block_ (heap_alloc_old w4 _ HR4.out.lt_)
    have HB5 : Hid (Below z w W5) := by unfold Hid; rw [← hW5]; exact HB4.out.alloc (by have := HB4.out.size; omega) _
    have HZ5 : Hid (W5.heap[z]? = some (.cells #[.slice none 0 0] 24 (0, 0))) := by unfold Hid; rw [← hW5]; exact (heap_alloc_old w4 _ (by have := HGV.out; have := HZG.out; omega)).trans HZ4.out
    have HVS : Hid (W5.heap.size = vb + 1) := by unfold Hid; rw [← hW5, ← hvb]; simp
    clear HR4 HB4 HZ4
    go_wp2
    go_loopw [8, 9] (fun s i wr => ∃ (k : Nat) (S : Rd), k ≤ n ∧ i = .int .i64 k ∧ Hid (wr.heap[z]? = some (.cells #[.slice none 0 0] 24 (0, 0))) ∧ Hid (Rdr wr g (.slice A l.length c) S) ∧ Hid (Below z w wr) ∧ Hid ((S.e = 0 ∧ S.a ≤ l.length ∧ ∃ Q A1 c1 A2 c2, Vf.Two wr vb (vb + 1) s k Q A1 c1 A2 c2 ∧ vb + 1 ≤ wr.heap.size ∧ Vf.Prog l n k Q S.a) ∨ (S.e ≠ 0 ∧ Vf.getE l = ([], S.x, S.e)))) (fun _ i _ => n - (intOf i).toNat)
    case atStart =>
      refine ⟨0, S1, Nat.zero_le _, rfl, HZ5.out, HR5.out, HB5.out, ?_⟩
      rcases HST.out with ⟨h1, h2, h3⟩ | h
      · exact .inl ⟨h1, h2, [], none, 0, none, 0, ⟨rfl, rfl, OwnL.nil_ _ _ _, HV5.out, OwnL.nil_ _ _ _, Apart.nil_ _⟩, by rw [HVS.out]; exact Nat.le_refl _, h3⟩
      · exact .inr h
    case round =>
      obtain ⟨k, S, hk, rfl, HZr, HR, HBr, HI⟩ := hrel
      rcases HI.out with ⟨he, hal, Q, A1, c1, A2, c2, HT, hbs, HP⟩ | ⟨he, hE⟩
      · obtain ⟨Sa, Se, Sx⟩ := S
        simp only at he hal HP
        subst he
        have ca := HR.out.at_
        have ce := HR.out.e_
        simp only [Int.natCast_zero] at ca ce
        obtain ⟨hQl, rfl, hO1, hbx, hO2, hap⟩ := HT
        by_cases hlt : k < n
        · have g1 : (k : Int) < (n : Int) := by omega
          have HO1 := Lib.hid hO1
          have HO2 := Lib.hid hO2
          have HVB := Lib.hid hbx
          have HAP := Lib.hid hap
          have HPR := Lib.hid HP
          have HIa : Hid (I64 ((Sa : Nat) : Int)) := by unfold Hid I64; omega
          have HL1 : Hid ((Q.map fun q => ((q.2 : Nat) : Int)).length = k) := by unfold Hid; rw [List.length_map]; exact hQl
          have HL2 : Hid ((Q.map Prod.fst).length = k) := by unfold Hid; rw [List.length_map]; exact hQl
          have HQL := Lib.hid hQl
          have wk : IntKind.i64.wrap ((k : Int) + 1) = (k : Int) + 1 := by rw [IntKind.wrap_i64]; omega
          clear hO1 hO2 hbx hap HP HI hQl
          go_wp2_with (at_builtin; go_must (refine wpList_push_m _ iK rfl _ _ rfl (vb + 1) _ rfl (Q.map fun q => ((q.2 : Nat) : Int)) HO1.out rfl ((Sa : Nat) : Int) HIa.out _ rfl _ rfl (by rw [HL1.out]; show _ * 8 ≤ _; omega) (by rw [HL1.out]; simp only [maxLen]; omega) hbs ?_; intro A3 c3 w5 hA hG hM))
          rw [HL1.out] at hA hM
          rw [HQL.out]
          have hzs := HBr.out.size
          have HVG : Hid (z < g ∧ g < vb) := ⟨HZG.out, HGV.out⟩
          have hgs := HR.out.lt_
          have hvs : vb < wr.heap.size := (Array.getElem?_eq_some_iff.1 HVB.out).1
          have hr5 := HR.out.block_ (hG.block g hgs (fun e => by have := (HO1.out.lt_ g e.symm).1; have := HVG.out; omega))
          have HZ5' : Hid (w5.heap[z]? = some (.cells #[.slice none 0 0] 24 (0, 0))) := (hG.block z (by have := HVG.out; omega) (fun e => by have := (HO1.out.lt_ z e.symm).1; have := HVG.out; omega)).trans HZr.out
          have HV5' : Hid (w5.heap[vb]? = some (.cells #[.slice A2 k c2] 24 (0, 0))) := (hG.block vb hvs (fun e => by have := (HO1.out.lt_ vb e.symm).1; omega)).trans HVB.out
          have HO25 := Lib.hid (HO2.out.turned_ (Turned.of_grown hG) (fun k hk e => HAP.out k e hk))
          have HAP5 := Lib.hid ((HAP.out.symm.moved hM (fun k hk => (HO2.out.lt_ k hk).2)).symm)
          have HO15 := Lib.hid hA
          have HB5' : Hid (Below z w w5) := HBr.out.grown hG (by have := HVG.out; omega) (fun k hk => by have := (HO1.out.lt_ k hk).1; have := HVG.out; omega)
          have hbs5 : vb + 1 ≤ w5.heap.size := Nat.le_trans hbs hG.size
          have HC := Lib.hid (rvpiece_any g _ ⟨Sa, 0, Sx⟩ l w5 hr5 (HLV.out w5 HB5'.out) hal)
          have HPO := @Vf.pieceR_of l Sa Sx
          have HOK := Vf.pieceR_ok HLT.out ⟨Sa, 0, Sx⟩
          obtain ⟨p, S', hr⟩ : ∃ pp ss, Vf.pieceR l ⟨Sa, 0, Sx⟩ = (pp, ss) := ⟨_, _, rfl⟩
          rw [hr] at HC HOK
          simp only [hr] at HPO
          have HPQ := Lib.hid HPO
          have HPK := Lib.hid HOK
          clear hA hG hM hr5 HO1 HO2 HAP HVB HZr HR HBr HIa ca ce HPO HOK hr hbs hzs hgs hvs
          obtain ⟨pj, pb, pl, pr, pk⟩ := p
          unfold pcV at HC
          simp only at HC
          go_wp2_with (fail)
          refine (HC.out).mono ?_
          rintro e w6 ⟨rfl, hr6, ht6⟩
          have hb6 : Below z w5 w6 := ht6.below (by have := HB5'.out.size; have := HVG.out; omega) (fun k e => by have e : k = g := e; have := HVG.out; omega)
          obtain ⟨q, hq⟩ : ∃ q, w6.heap.size = q := ⟨_, rfl⟩
          obtain ⟨W7, hW7⟩ : ∃ W, w6.alloc (.cells #[.bool false, .int .u8 0, .int .i64 0, .int .i64 0, .int .u32 0] 45) = W := ⟨_, rfl⟩
          have b7 : W7.heap[q]? = some (.cells #[.bool false, .int .u8 0, .int .i64 0, .int .i64 0, .int .u32 0] 45 (0, 0)) := by rw [← hW7, ← hq]; exact heap_alloc_new w6 _
          obtain ⟨x0, x1, x2, x3, x4⟩ := pbox_cells b7
          obtain ⟨f0, f1, f2, f3, f4⟩ := pbox_cool b7
          obtain ⟨W8, hW8⟩ : ∃ W, ((((W7.setCell ⟨q, 0, none⟩ (.bool pj)).setCell ⟨q, 1, none⟩ (.int .u8 (pb : Nat))).setCell ⟨q, 2, none⟩ (.int .i64 pl)).setCell ⟨q, 3, none⟩ (.int .i64 pr)).setCell ⟨q, 4, none⟩ (.int .u32 (pk : Nat)) = W := ⟨_, rfl⟩
          have b8 : W8.heap[q]? = some (.cells #[.bool pj, .int .u8 (pb : Nat), .int .i64 pl, .int .i64 pr, .int .u32 (pk : Nat)] 45 (0, 0)) := by rw [← hW8]; exact pbox_set b7 _ _ _ _ _
          have t8 : Turned (fun _ => False) w6 W8 := by rw [← hW8, ← hW7]; exact pbox_turned ((Turned.refl _ w6).alloc _) (fun h => by omega) _ _ _ _ _
          have HR8 : Hid (Rdr W8 g (.slice A l.length c) S') := hr6.block_ (t8.block g hr6.lt_ (fun h => h))
          have t68 : Turned (fun k => k = g) w5 W8 := ht6.trans t8 (fun _ _ h => h.elim)
          have HZ8 : Hid (W8.heap[z]? = some (.cells #[.slice none 0 0] 24 (0, 0))) := (t68.block z (Array.getElem?_eq_some_iff.1 HZ5'.out).1 (fun e => by have e : z = g := e; have := HVG.out; omega)).trans HZ5'.out
          have HV8 : Hid (W8.heap[vb]? = some (.cells #[.slice A2 k c2] 24 (0, 0))) := (t68.block vb (Array.getElem?_eq_some_iff.1 HV5'.out).1 (fun e => by have e : vb = g := e; have := HVG.out; omega)).trans HV5'.out
          have HO18 := Lib.hid (HO15.out.turned_ t68 (fun k hk e => by have e : k = g := e; have := (HO15.out.lt_ k hk).1; have := HVG.out; omega))
          have HO28 := Lib.hid (HO25.out.turned_ t68 (fun k hk e => by have e : k = g := e; have := (HO25.out.lt_ k hk).1; have := HVG.out; omega))
          have HB8 : Hid (Below z w W8) := HB5'.out.trans (t68.below (by have := HB5'.out.size; have := HVG.out; omega) (fun k e => by have e : k = g := e; have := HVG.out; omega))
          have hbs8 : vb + 1 ≤ W8.heap.size := Nat.le_trans hbs5 t68.size
          obtain ⟨y0, y1, y2, y3, y4⟩ := pbox_cells b8
          have cv : W8.cell? ⟨vb, 0, none⟩ = some (.slice A2 k c2) := by rw [cell_of_row _ _ 0 _ _ _ HV8.out]; rfl
          clear hr6 ht6 hb6 b7 b8 t8 t68 HC HZ5' HV5' HO15 HO25 HB5' hbs5
          go_wp2_with (at_builtin; go_must (refine wpList_push_m _ pK rfl _ _ rfl (vb + 1) _ rfl (Q.map Prod.fst) HO28.out rfl ⟨pj, pb, pl, pr, pk⟩ HPK.out _ rfl _ rfl (by rw [HL2.out]; show _ * 32 ≤ _; omega) (by rw [HL2.out]; simp only [maxLen]; omega) hbs8 ?_; intro A4 c4 w9 hA hG hM; have hh9 := (hG.block vb (by omega) (fun e => by have := (HO28.out.lt_ vb e.symm).1; omega)).trans HV8.out; have hc9 : w9.cell? ⟨vb, 0, none⟩ = some (.slice A2 k c2) := (by rw [cell_of_row _ _ 0 _ _ _ hh9]; rfl); have hf9 : w9.frozen? ⟨vb, 0, none⟩ = false := frozen_of_row w9 _ 0 _ _ hh9))
          rw [HL2.out] at hA hM
          rw [HQL.out]
          have HF1 := Lib.hid ((HO18.out.turned_ (Turned.of_grown hG) (fun j hj e => HAP5.out j hj e)).of_block (w' := w9.setCell ⟨vb, 0, none⟩ (.slice A4 (k + 1) c4)) (fun j hj => heap_setCell_other _ _ _ _ (by have := (HO18.out.lt_ j hj).1; show j ≠ vb; omega)))
          have HF2 := Lib.hid (hA.of_block (w' := w9.setCell ⟨vb, 0, none⟩ (.slice A4 (k + 1) c4)) (fun j hj => heap_setCell_other _ _ _ _ (by have := (hA.lt_ j hj).1; show j ≠ vb; omega)))
          have HF3 := Lib.hid (HAP5.out.moved hM (fun j hj => (HO18.out.lt_ j hj).2))
          have HFV : Hid ((w9.setCell ⟨vb, 0, none⟩ (.slice A4 (k + 1) c4)).heap[vb]? = some (.cells #[.slice A4 (k + 1) c4] 24 (0, 0))) := by unfold Hid; rw [heap_setCell_same w9 vb 0 _ _ _ hh9]; rfl
          have HFZ : Hid ((w9.setCell ⟨vb, 0, none⟩ (.slice A4 (k + 1) c4)).heap[z]? = some (.cells #[.slice none 0 0] 24 (0, 0))) := (heap_setCell_other _ _ _ _ (by have := HVG.out; show z ≠ vb; omega)).trans ((hG.block z (Array.getElem?_eq_some_iff.1 HZ8.out).1 (fun e => by have := (HO28.out.lt_ z e.symm).1; have := HVG.out; omega)).trans HZ8.out)
          have HFR : Hid (Rdr (w9.setCell ⟨vb, 0, none⟩ (.slice A4 (k + 1) c4)) g (.slice A l.length c) S') := HR8.out.block_ ((heap_setCell_other _ _ _ _ (by have := HVG.out; show g ≠ vb; omega)).trans (hG.block g HR8.out.lt_ (fun e => by have := (HO28.out.lt_ g e.symm).1; have := HVG.out; omega)))
          have HFB : Hid (Below z w (w9.setCell ⟨vb, 0, none⟩ (.slice A4 (k + 1) c4))) := (HB8.out.grown hG (by have := HVG.out; omega) (fun j hj => by have := (HO28.out.lt_ j hj).1; have := HVG.out; omega)).setCell (p := ⟨vb, 0, none⟩) (by have := HVG.out; show z ≤ vb; omega) _
          have hbs9 : vb + 1 ≤ (w9.setCell ⟨vb, 0, none⟩ (.slice A4 (k + 1) c4)).heap.size := by have := hG.size; simp; omega
          clear hA hG hM hh9 HO18 HO28 HAP5 HV8 HZ8 HR8 HB8 cv
          go_wp2
          go_roundw
          case rel =>
            refine ⟨k + 1, S', by omega, by go_num, HFZ.out, HFR.out, HFB.out, ?_⟩
            cases hp : Vf.rdPc l Sa with
            | bad e x =>
              obtain ⟨h1, h2⟩ := HPQ.out.2 e x hp
              refine .inr ⟨fun e0 => ?_, ?_⟩
              · rw [e0] at h1
                subst h1
                exact Vf.rdPc_bad hp
              · rw [h1, h2]
                exact HPR.out.bad HMG.out hlt hp
            | got p a1 =>
              have h1 := HPQ.out.1 p a1 hp
              injection h1 with h1 h2
              subst h1 h2
              have h3 := Vf.rdPc_got HLT.out hp
              refine .inl ⟨rfl, h3.2.2.1, Q ++ [(⟨pj, pb, pl, pr, pk⟩, Sa)], A3, c3, A4, c4, ⟨by rw [List.length_append, HQL.out]; rfl, rfl, by rw [List.map_append]; exact HF1.out, HFV.out, by rw [List.map_append]; exact HF2.out, HF3.out⟩, hbs9, HPR.out.step hlt hp⟩
          case measure => simp [intOf]; omega
        · obtain rfl : k = n := by omega
          have g1 : ¬ (k : Int) < (k : Int) := by omega
          obtain ⟨a0, hN0, hP0⟩ := HP.done
          have HE : Hid (Vf.getE l = if l.length - Sa < 4 then ([], l.length, 4) else if (l.drop Sa).take 4 ≠ four (Cr.of (l.take Sa)) then ([], Sa, 6) else if Sa + 4 < l.length then ([], Sa + 4, 5) else if (Vo.check (Q.map Prod.fst)).1 ≠ 0 then ([], (match Q[(Vo.check (Q.map Prod.fst)).2]? with | some q => q.2 | none => Sa), 11) else (Q.map Prod.fst, 0, 0)) := by
            unfold Hid Vf.getE
            rw [if_neg (by simp [HMG.out]), hN0]
            simp only
            rw [hP0]
            rfl
          have hw0 : IntKind.i64.wrap ((l.length : Int) - (Sa : Int)) = (l.length : Int) - (Sa : Int) := by rw [IntKind.wrap_i64]; omega
          have HQL := Lib.hid hQl
          clear hN0 hP0 HP HI hlt
          by_cases hA : l.length - Sa < 4
          · have g2 : (l.length : Int) - (Sa : Int) < 4 := by omega
            have HX : Hid (Vf.getE l = ([], l.length, 4)) := by unfold Hid; rw [HE.out, if_pos hA]
            clear HE hA hO1 hO2 hbx hap HR
            have cz : wr.cell? ⟨z, 0, none⟩ = some (.slice none 0 0) := by rw [cell_of_row _ _ 0 _ _ _ HZr.out]; rfl
            have fz : wr.frozen? ⟨z, 0, none⟩ = false := frozen_of_row wr _ 0 _ _ HZr.out
            have HZF : Hid ((wr.setCell ⟨z, 0, none⟩ (.slice none 0 0)).heap[z]? = some (.cells #[.slice none 0 0] 24 (0, 0))) := by unfold Hid; rw [heap_setCell_same wr z 0 _ _ _ HZr.out]; rfl
            have HBF : Hid (Below z w (wr.setCell ⟨z, 0, none⟩ (.slice none 0 0))) := HBr.out.setCell (p := ⟨z, 0, none⟩) (Nat.le_refl _) _
            clear HZr HBr
            go_wp2
            refine bodyPost_ret (IsVG.results_voc rfl _ _ z _ _ _ _ rfl rfl rfl HZF.out) rfl ?_
            exact IsVG.none_ HX.out (by rw [HZ.out]; exact HBF.out)
          · have g2 : ¬ (l.length : Int) - (Sa : Int) < 4 := by omega
            have HO1 := Lib.hid hO1
            have HO2 := Lib.hid hO2
            have HVB := Lib.hid hbx
            have HA4 : Hid (Sa + 4 ≤ l.length) := by unfold Hid; omega
            have s1 := cut_to yK yK_el A l.length c Sa (by have := HLC.out; omega)
            have s2 := cutAt_to yK yK_el A l.length c Sa (by have := HLC.out; omega)
            change ∀ w, (Instr.slice 27 (.slice A l.length c) none (some (.int .i64 (Sa : Nat))) none).run Try.prog w = _ at s1
            change ∀ w, (Instr.sliceAt 27 (.slice A l.length c) none (some (.int .i64 (Sa : Nat))) none).run Try.prog w = _ at s2
            have hcut : Lv yK wr g (.slice A Sa c) (l.take Sa) := (HLV.out wr HBr.out).take_ hal
            have HCo := Lib.hid (rof_any _ (l.take Sa) g wr hcut.bv_)
            have HB32 := Cr.of_b32 (show ∀ x ∈ l.take Sa, x < 256 from fun x hx => HLT.out x (List.mem_of_mem_take hx))
            obtain ⟨sm, hsm⟩ : ∃ x, Cr.of (l.take Sa) = x := ⟨_, rfl⟩
            rw [hsm] at HCo HB32 HE
            have HFo := Lib.hid (rfour_any sm HB32 wr)
            have HSA := Lib.hid hal
            clear hO1 hO2 hbx hap hcut hsm HB32 hA
            go_wp2_with (fail)
            refine (HCo.out).mono ?_
            rintro e w5 ⟨rfl, rfl⟩
            go_wp2_with (fail)
            refine (HFo.out).mono ?_
            rintro e w7 ⟨A6, c6, rfl, ho6, hb6⟩
            have h4 := four_len sm
            rw [h4] at ho6 ⊢
            have hzw : z < wr.heap.size := (Array.getElem?_eq_some_iff.1 HZr.out).1
            have HB7 : Hid (Below z w w7) := HBr.out.trans (hb6.mono (by omega))
            have HZ7 : Hid (w7.heap[z]? = some (.cells #[.slice none 0 0] 24 (0, 0))) := (hb6.block z hzw).trans HZr.out
            have HV7 : Hid (w7.heap[vb]? = some (.cells #[.slice A2 k c2] 24 (0, 0))) := (hb6.block vb (Array.getElem?_eq_some_iff.1 HVB.out).1).trans HVB.out
            have HO17 := Lib.hid (HO1.out.below_ hb6 (Nat.le_refl _))
            have HO27 := Lib.hid (HO2.out.below_ hb6 (Nat.le_refl _))
            have HF7 := Lib.hid ho6.form_
            clear ho6 hb6 HCo HFo HO1 HO2 HVB HZr HBr HR s1 s2 h4 hzw
            go_wp2
            go_loopw [13] (fun i wr => ∃ j : Nat, j ≤ 4 ∧ i = .int .i64 j ∧ Hid ((l.drop Sa).take j = (four sm).take j) ∧ Hid (Turned (fun _ => False) w7 wr)) (fun i _ => 4 - (intOf i).toNat)
            case atStart => exact ⟨0, by omega, rfl, by simp [Hid], Turned.refl _ _⟩
            case round =>
              obtain ⟨j, hj, rfl, HT, HTL⟩ := hrel
              have HBl : Hid (Below z w wr) := HB7.out.trans (HTL.out.below (by have := HB7.out.size; omega) (fun _ h => h.elim))
              have HFl := Lib.hid (HF7.out.turned_ HTL.out (fun _ _ h => h))
              by_cases hlt : j < 4
              · have g3 : (j : Int) < 4 := by omega
                obtain ⟨m, hmj⟩ : ∃ m, Sa + j = m := ⟨_, rfl⟩
                have hml : m < l.length := by have := HA4.out; omega
                obtain ⟨b, o, x, rfl, hb1, hx, hd, hcell⟩ := (HLV.out wr HBl.out).byte_ (k := m) hml
                obtain ⟨b2, o2, y, rfl, hb2, hy, hd', hcell'⟩ := HFl.out.byte_ (k := j) (by rw [four_len]; exact hlt)
                have hdj : (l.drop Sa)[j]? = some x := by rw [List.getElem?_drop, hmj]; exact hd
                have HS := Lib.hid (take_both HT.out hdj hd')
                have wm : IntKind.i64.wrap ((Sa : Int) + (j : Int)) = (m : Int) := by rw [IntKind.wrap_i64]; omega
                have g4 : (m : Int) < (l.length : Int) := by omega
                clear hd hd' hdj hx hy hb1 hb2 HT hml
                by_cases hxy : x = y
                · subst hxy
                  have hq2 : (((x : Nat) : Int) != ((x : Nat) : Int)) = false := by simp
                  go_wp2
                  go_quiet (fail)
                  go_wp2
                  go_roundw
                  case rel => exact ⟨j + 1, by omega, by go_num, HS.out.2 (by simp), HTL.out.drewN _⟩
                  case measure => simp [intOf]; omega
                · have hq2 : (((x : Nat) : Int) != ((y : Nat) : Int)) = true := by rw [bne_iff_ne]; omega
                  have hne : (l.drop Sa).take 4 ≠ four sm := fun e => hxy (HS.out.1 (by
                    have e2 := congrArg (List.take (j + 1)) e
                    rwa [List.take_take, Nat.min_eq_left (by omega)] at e2))
                  have HX : Hid (Vf.getE l = ([], Sa, 6)) := by unfold Hid; rw [HE.out, if_neg (by have := HA4.out; omega), if_pos hne]
                  clear hne HE
                  go_wp2
                  go_quiet (fail)
                  generalize hW9 : wr.drewN _ = w9
                  have t9 : Turned (fun _ => False) w7 w9 := by rw [← hW9]; exact HTL.out.drewN _
                  have HBr : Hid (Below z w w9) := HB7.out.trans (t9.below (by have := HB7.out.size; omega) (fun _ h => h.elim))
                  have HZr : Hid (w9.heap[z]? = some (.cells #[.slice none 0 0] 24 (0, 0))) := (t9.block z (Array.getElem?_eq_some_iff.1 HZ7.out).1 (fun h => h)).trans HZ7.out
                  clear t9 hW9 HTL HBl HFl hcell hcell'
                  have cz : w9.cell? ⟨z, 0, none⟩ = some (.slice none 0 0) := by rw [cell_of_row _ _ 0 _ _ _ HZr.out]; rfl
                  have fz : w9.frozen? ⟨z, 0, none⟩ = false := frozen_of_row w9 _ 0 _ _ HZr.out
                  have HZF : Hid ((w9.setCell ⟨z, 0, none⟩ (.slice none 0 0)).heap[z]? = some (.cells #[.slice none 0 0] 24 (0, 0))) := by unfold Hid; show (w9.setCell ⟨z, 0, none⟩ (.slice none 0 0)).heap[z]? = _; rw [heap_setCell_same w9 z 0 _ _ _ HZr.out]; rfl
                  have HBF : Hid (Below z w (w9.setCell ⟨z, 0, none⟩ (.slice none 0 0))) := HBr.out.setCell (p := ⟨z, 0, none⟩) (Nat.le_refl _) _
                  clear HZr HBr
                  go_wp2
                  refine bodyPost_ret (IsVG.results_voc rfl _ _ z _ _ _ _ rfl rfl rfl HZF.out) rfl ?_
                  exact IsVG.none_ HX.out (by rw [HZ.out]; exact HBF.out)
              · have g3 : ¬ (j : Int) < 4 := by omega
                obtain rfl : j = 4 := by omega
                have hsum : (l.drop Sa).take 4 = four sm := by rw [HT.out]; rfl
                have HE2 : Hid (Vf.getE l = if Sa + 4 < l.length then ([], Sa + 4, 5) else if (Vo.check (Q.map Prod.fst)).1 ≠ 0 then ([], (match Q[(Vo.check (Q.map Prod.fst)).2]? with | some q => q.2 | none => Sa), 11) else (Q.map Prod.fst, 0, 0)) := by
                  unfold Hid
                  rw [HE.out, if_neg (by have := HA4.out; omega), if_neg (by rw [hsum]; simp)]
                obtain ⟨Sb, hSb⟩ : ∃ x, Sa + 4 = x := ⟨_, rfl⟩
                rw [hSb] at HE2
                have wb : IntKind.i64.wrap ((Sa : Int) + 4) = (Sb : Int) := by rw [IntKind.wrap_i64]; omega
                have HZr : Hid (wr.heap[z]? = some (.cells #[.slice none 0 0] 24 (0, 0))) := (HTL.out.block z (Array.getElem?_eq_some_iff.1 HZ7.out).1 (fun h => h)).trans HZ7.out
                have HBr := HBl
                clear HE hsum HT hlt
                by_cases h9 : Sb < l.length
                · have g5 : (Sb : Int) < (l.length : Int) := by omega
                  have HX : Hid (Vf.getE l = ([], Sb, 5)) := by unfold Hid; rw [HE2.out, if_pos h9]
                  clear HE2 HBl HTL
                  have cz : wr.cell? ⟨z, 0, none⟩ = some (.slice none 0 0) := by rw [cell_of_row _ _ 0 _ _ _ HZr.out]; rfl
                  have fz : wr.frozen? ⟨z, 0, none⟩ = false := frozen_of_row wr _ 0 _ _ HZr.out
                  have HZF : Hid ((wr.setCell ⟨z, 0, none⟩ (.slice none 0 0)).heap[z]? = some (.cells #[.slice none 0 0] 24 (0, 0))) := by unfold Hid; show (wr.setCell ⟨z, 0, none⟩ (.slice none 0 0)).heap[z]? = _; rw [heap_setCell_same wr z 0 _ _ _ HZr.out]; rfl
                  have HBF : Hid (Below z w (wr.setCell ⟨z, 0, none⟩ (.slice none 0 0))) := HBr.out.setCell (p := ⟨z, 0, none⟩) (Nat.le_refl _) _
                  clear HZr HBr
                  go_wp2
                  refine bodyPost_ret (IsVG.results_voc rfl _ _ z _ _ _ _ rfl rfl rfl HZF.out) rfl ?_
                  exact IsVG.none_ HX.out (by rw [HZ.out]; exact HBF.out)
                · have g5 : ¬ (Sb : Int) < (l.length : Int) := by omega
                  have hO1 := HO17.out.turned_ HTL.out (fun _ _ h => h)
                  have hO2 := HO27.out.turned_ HTL.out (fun _ _ h => h)
                  have hVl : wr.heap[vb]? = some (.cells #[.slice A2 k c2] 24 (0, 0)) := (HTL.out.block vb (Array.getElem?_eq_some_iff.1 HV7.out).1 (fun h => h)).trans HV7.out
                  have cv : wr.cell? ⟨vb, 0, none⟩ = some (.slice A2 k c2) := by rw [cell_of_row _ _ 0 _ _ _ hVl]; rfl
                  have HCk := Lib.hid (rcheck_any (Q.map Prod.fst) _ wr.heap.size wr hO2.form_ (Nat.le_refl _))
                  obtain ⟨ec, ic, hck⟩ : ∃ x y, Vo.check (Q.map Prod.fst) = (x, y) := ⟨_, _, rfl⟩
                  have HE3 : Hid (Vf.getE l = if ec ≠ 0 then ([], (match Q[ic]? with | some q => q.2 | none => Sa), 11) else (Q.map Prod.fst, 0, 0)) := by
                    unfold Hid
                    rw [HE2.out, if_neg h9, hck]
                  rw [hck] at HCk
                  have HVl := Lib.hid hVl
                  have HO1l := Lib.hid hO1
                  have HO2l := Lib.hid hO2
                  clear HE2 hck h9 hO1 hO2 hVl HTL HBl
                  go_wp2_with (fail)
                  refine (HCk.out).mono ?_
                  rintro e w8 ⟨rfl, hb8⟩
                  have hzw : z < wr.heap.size := (Array.getElem?_eq_some_iff.1 HZr.out).1
                  have HZ8 : Hid (w8.heap[z]? = some (.cells #[.slice none 0 0] 24 (0, 0))) := (hb8.block z hzw).trans HZr.out
                  have HV8 : Hid (w8.heap[vb]? = some (.cells #[.slice A2 k c2] 24 (0, 0))) := (hb8.block vb (Array.getElem?_eq_some_iff.1 HVl.out).1).trans HVl.out
                  have HB8 : Hid (Below z w w8) := HBr.out.trans (hb8.mono (by omega))
                  have HO18 := Lib.hid (HO1l.out.below_ hb8 (Nat.le_refl _))
                  have HO28 := Lib.hid (HO2l.out.below_ hb8 (Nat.le_refl _))
                  clear hb8 HCk HZr HBr HVl HO1l HO2l cv hzw
                  by_cases hec : ec = 0
                  · subst hec
                    simp only [Int.natCast_zero]
                    have HX : Hid (Vf.getE l = (Q.map Prod.fst, 0, 0)) := by unfold Hid; rw [HE3.out, if_neg (by simp)]
                    have cv : w8.cell? ⟨vb, 0, none⟩ = some (.slice A2 k c2) := by rw [cell_of_row _ _ 0 _ _ _ HV8.out]; rfl
                    have cz : w8.cell? ⟨z, 0, none⟩ = some (.slice none 0 0) := by rw [cell_of_row _ _ 0 _ _ _ HZ8.out]; rfl
                    have fz : w8.frozen? ⟨z, 0, none⟩ = false := frozen_of_row w8 _ 0 _ _ HZ8.out
                    have HZF : Hid ((w8.setCell ⟨z, 0, none⟩ (.slice A2 k c2)).heap[z]? = some (.cells #[.slice A2 k c2] 24 (0, 0))) := by unfold Hid; rw [heap_setCell_same w8 z 0 _ _ _ HZ8.out]; rfl
                    have HBF : Hid (Below z w (w8.setCell ⟨z, 0, none⟩ (.slice A2 k c2))) := HB8.out.setCell (p := ⟨z, 0, none⟩) (Nat.le_refl _) _
                    have HOF := Lib.hid (HO28.out.of_block (w' := w8.setCell ⟨z, 0, none⟩ (.slice A2 k c2)) (fun j hj => heap_setCell_other _ _ _ _ (by have := (HO28.out.lt_ j hj).1; have := HZG.out; have := HGV.out; show j ≠ z; omega)))
                    clear HZ8 HB8 HE3 HO18 HO28
                    go_wp2
                    refine bodyPost_ret (IsVG.results_voc rfl _ _ z _ _ _ _ rfl rfl rfl HZF.out) rfl ?_
                    have hl : (Vf.getE l).1.length = k := by rw [HX.out]; show (Q.map Prod.fst).length = k; rw [List.length_map]; exact HQL.out
                    refine ⟨A2, c2, by rw [hl, HX.out]; rfl, by rw [hl, HX.out]; exact HOF.out.mono_ (by have := HZG.out; have := HGV.out; omega), by rw [HZ.out]; exact HBF.out⟩
                  · have g6 : ¬ ((ec : Int) = 0) := by omega
                    by_cases hik : ic < k
                    · have g7 : (ic : Int) < (k : Int) := by omega
                      obtain ⟨b, o, x, rfl, hb1, hx, hd, hcell⟩ := HO18.out.form_.int_ (k := ic) (by rw [List.length_map, HQL.out]; exact hik)
                      obtain ⟨qq, hqq⟩ : ∃ qq, Q[ic]? = some qq := ⟨_, List.getElem?_eq_getElem (by rw [HQL.out]; exact hik)⟩
                      have hxq : ((qq.2 : Nat) : Int) = x := by
                        rw [List.getElem?_map, hqq] at hd
                        exact Option.some.inj hd
                      obtain ⟨xx, hxx⟩ : ∃ xx, qq.2 = xx := ⟨_, rfl⟩
                      rw [hxx] at hxq
                      subst hxq
                      have HX : Hid (Vf.getE l = ([], xx, 11)) := by unfold Hid; rw [HE3.out, if_pos hec, hqq]; simp only [hxx]
                      have HZr := HZ8
                      have HBr := HB8
                      have hbz : b ≠ z := by
                        have := (HO18.out.lt_ b rfl).1
                        have := HZG.out
                        have := HGV.out
                        omega
                      have hcell2 : (w8.setCell ⟨z, 0, none⟩ (.slice none 0 0)).cell? ⟨b, o + ic, none⟩ = some (.int .i64 (xx : Nat)) := (World.cell?_of_block (w := w8) (a := ⟨b, o + ic, none⟩) (heap_setCell_other w8 ⟨z, 0, none⟩ b _ hbz)).trans hcell
                      clear HE3 HZ8 HB8 HO18 HO28 hd hqq hx hb1 hik hec hxx hbz
                      have cz : w8.cell? ⟨z, 0, none⟩ = some (.slice none 0 0) := by rw [cell_of_row _ _ 0 _ _ _ HZr.out]; rfl
                      have fz : w8.frozen? ⟨z, 0, none⟩ = false := frozen_of_row w8 _ 0 _ _ HZr.out
                      have HZF : Hid ((w8.setCell ⟨z, 0, none⟩ (.slice none 0 0)).drew.heap[z]? = some (.cells #[.slice none 0 0] 24 (0, 0))) := by unfold Hid; show (w8.setCell ⟨z, 0, none⟩ (.slice none 0 0)).heap[z]? = _; rw [heap_setCell_same w8 z 0 _ _ _ HZr.out]; rfl
                      have HBF : Hid (Below z w (w8.setCell ⟨z, 0, none⟩ (.slice none 0 0))) := HBr.out.setCell (p := ⟨z, 0, none⟩) (Nat.le_refl _) _
                      clear HZr HBr
                      go_wp2
                      go_region
                      all_goals go_wp2
                      all_goals
                        refine bodyPost_ret (IsVG.results_voc rfl _ _ z _ (.int .i64 (xx : Nat)) (.int .i64 (11 : Nat)) _ rfl rfl rfl HZF.out) rfl ?_
                        exact IsVG.none_ HX.out (by rw [HZ.out]; exact HBF.out.drew)
                    · have g7 : ¬ (ic : Int) < (k : Int) := by omega
                      have HX : Hid (Vf.getE l = ([], Sa, 11)) := by unfold Hid; rw [HE3.out, if_pos hec, List.getElem?_eq_none (by rw [HQL.out]; omega)]
                      have HZr := HZ8
                      have HBr := HB8
                      clear HE3 HZ8 HB8 HO18 HO28 hik hec
                      have cz : w8.cell? ⟨z, 0, none⟩ = some (.slice none 0 0) := by rw [cell_of_row _ _ 0 _ _ _ HZr.out]; rfl
                      have fz : w8.frozen? ⟨z, 0, none⟩ = false := frozen_of_row w8 _ 0 _ _ HZr.out
                      have HZF : Hid ((w8.setCell ⟨z, 0, none⟩ (.slice none 0 0)).heap[z]? = some (.cells #[.slice none 0 0] 24 (0, 0))) := by unfold Hid; show (w8.setCell ⟨z, 0, none⟩ (.slice none 0 0)).heap[z]? = _; rw [heap_setCell_same w8 z 0 _ _ _ HZr.out]; rfl
                      have HBF : Hid (Below z w (w8.setCell ⟨z, 0, none⟩ (.slice none 0 0))) := HBr.out.setCell (p := ⟨z, 0, none⟩) (Nat.le_refl _) _
                      clear HZr HBr
                      go_wp2
                      refine bodyPost_ret (IsVG.results_voc rfl _ _ z _ _ _ _ rfl rfl rfl HZF.out) rfl ?_
                      exact IsVG.none_ HX.out (by rw [HZ.out]; exact HBF.out)
      · by_cases hlt : k < n
        · have g1 : (k : Int) < (n : Int) := by omega
          have ce := HR.out.e_
          have cx := HR.out.x_
          have cz : wr.cell? ⟨z, 0, none⟩ = some (.slice none 0 0) := by rw [cell_of_row _ _ 0 _ _ _ HZr.out]; rfl
          have fz : wr.frozen? ⟨z, 0, none⟩ = false := frozen_of_row wr _ 0 _ _ HZr.out
          have hne : ¬ ((S.e : Int) = 0) := by omega
          have HX := Lib.hid hE
          have HZF : Hid ((wr.setCell ⟨z, 0, none⟩ (.slice none 0 0)).drew.heap[z]? = some (.cells #[.slice none 0 0] 24 (0, 0))) := by unfold Hid; show (wr.setCell ⟨z, 0, none⟩ (.slice none 0 0)).heap[z]? = _; rw [heap_setCell_same wr z 0 _ _ _ HZr.out]; rfl
          have HBF : Hid (Below z w (wr.setCell ⟨z, 0, none⟩ (.slice none 0 0))) := HBr.out.setCell (p := ⟨z, 0, none⟩) (Nat.le_refl _) _
          clear HZr HR HBr HI he hE hlt
          go_wp2
          go_region
          all_goals go_wp2
          all_goals
            refine bodyPost_ret (IsVG.results_voc rfl _ _ z _ (.int .i64 (S.x : Nat)) (.int .i64 (S.e : Nat)) _ rfl rfl rfl HZF.out) rfl ?_
            exact IsVG.none_ HX.out (by rw [HZ.out]; exact HBF.out.drew)
        · have g1 : ¬ (k : Int) < (n : Int) := by omega
          have ce := HR.out.e_
          have cx := HR.out.x_
          have cz : wr.cell? ⟨z, 0, none⟩ = some (.slice none 0 0) := by rw [cell_of_row _ _ 0 _ _ _ HZr.out]; rfl
          have fz : wr.frozen? ⟨z, 0, none⟩ = false := frozen_of_row wr _ 0 _ _ HZr.out
          have hne : ¬ ((S.e : Int) = 0) := by omega
          have HX := Lib.hid hE
          have HZF : Hid ((wr.setCell ⟨z, 0, none⟩ (.slice none 0 0)).drew.heap[z]? = some (.cells #[.slice none 0 0] 24 (0, 0))) := by unfold Hid; show (wr.setCell ⟨z, 0, none⟩ (.slice none 0 0)).heap[z]? = _; rw [heap_setCell_same wr z 0 _ _ _ HZr.out]; rfl
          have HBF : Hid (Below z w (wr.setCell ⟨z, 0, none⟩ (.slice none 0 0))) := HBr.out.setCell (p := ⟨z, 0, none⟩) (Nat.le_refl _) _
          clear HZr HR HBr HI he hE hlt
          go_wp2
          go_region
          all_goals go_wp2
          all_goals
            refine bodyPost_ret (IsVG.results_voc rfl _ _ z _ (.int .i64 (S.x : Nat)) (.int .i64 (S.e : Nat)) _ rfl rfl rfl HZF.out) rfl ?_
            exact IsVG.none_ HX.out (by rw [HZ.out]; exact HBF.out.drew)
  · rw [decide_eq_false hmg]
    have HX : Hid (Vf.getE l = ([], 0, 5)) := by unfold Hid Vf.getE; rw [if_pos hmg]
    have cz : w2.cell? ⟨z, 0, none⟩ = some (.slice none 0 0) := by rw [cell_of_row _ _ 0 _ _ _ HZ2.out]; rfl
    have fz : w2.frozen? ⟨z, 0, none⟩ = false := frozen_of_row w2 _ 0 _ _ HZ2.out
    have HZF : Hid ((w2.setCell ⟨z, 0, none⟩ (.slice none 0 0)).heap[z]? = some (.cells #[.slice none 0 0] 24 (0, 0))) := by unfold Hid; rw [heap_setCell_same w2 z 0 _ _ _ HZ2.out]; rfl
    have HBF : Hid (Below z w (w2.setCell ⟨z, 0, none⟩ (.slice none 0 0))) := HB2.out.setCell (p := ⟨z, 0, none⟩) (Nat.le_refl _) _
    clear HZ2 HB2
    go_wp2
    refine bodyPost_ret (IsVG.results_voc rfl _ _ z _ _ _ _ rfl rfl rfl HZF.out) rfl (IsVG.none_ HX.out (by rw [HZ.out]; exact HBF.out))
end Go.Proofs.Ytglkhgchbnkekaa
namespace Go.Proofs.Ytglkhgchbnkekaa.Sh

abbrev W32 := BitVec 32
/-- A word turned right. -/
def rot (x : W32) (n : Nat) : W32 := x >>> n ||| x <<< (32 - n)
def sig0 (x : W32) : W32 := rot x 7 ^^^ rot x 18 ^^^ x >>> 3
def sig1 (x : W32) : W32 := rot x 17 ^^^ rot x 19 ^^^ x >>> 10
def Sig0 (x : W32) : W32 := rot x 2 ^^^ rot x 13 ^^^ rot x 22
def Sig1 (x : W32) : W32 := rot x 6 ^^^ rot x 11 ^^^ rot x 25
def ch (e f g : W32) : W32 := e &&& f ||| ~~~e &&& g
def maj (a b c : W32) : W32 := a &&& b ||| a &&& c ||| b &&& c

def consts : List W32 := [
  0x428a2f98, 0x71374491, 0xb5c0fbcf, 0xe9b5dba5, 0x3956c25b, 0x59f111f1, 0x923f82a4, 0xab1c5ed5,
  0xd807aa98, 0x12835b01, 0x243185be, 0x550c7dc3, 0x72be5d74, 0x80deb1fe, 0x9bdc06a7, 0xc19bf174,
  0xe49b69c1, 0xefbe4786, 0x0fc19dc6, 0x240ca1cc, 0x2de92c6f, 0x4a7484aa, 0x5cb0a9dc, 0x76f988da,
  0x983e5152, 0xa831c66d, 0xb00327c8, 0xbf597fc7, 0xc6e00bf3, 0xd5a79147, 0x06ca6351, 0x14292967,
  0x27b70a85, 0x2e1b2138, 0x4d2c6dfc, 0x53380d13, 0x650a7354, 0x766a0abb, 0x81c2c92e, 0x92722c85,
  0xa2bfe8a1, 0xa81a664b, 0xc24b8b70, 0xc76c51a3, 0xd192e819, 0xd6990624, 0xf40e3585, 0x106aa070,
  0x19a4c116, 0x1e376c08, 0x2748774c, 0x34b0bcb5, 0x391c0cb3, 0x4ed8aa4a, 0x5b9cca4f, 0x682e6ff3,
  0x748f82ee, 0x78a5636f, 0x84c87814, 0x8cc70208, 0x90befffa, 0xa4506ceb, 0xbef9a3f7, 0xc67178f2]
theorem consts_len : consts.length = 64 := rfl
def kc (i : Nat) : W32 := consts.getD i 0

/-- Four bytes as a word, the highest first. -/
def word (b0 b1 b2 b3 : W32) : W32 := b0 <<< 24 ||| b1 <<< 16 ||| b2 <<< 8 ||| b3
/-- The words of a block: the first k of the 64. -/
def sched (b : List Nat) : Nat → List W32
  | 0 => []
  | i + 1 => sched b i ++ [if i < 16 then word (BitVec.ofNat 32 (b.getD (4 * i) 0)) (BitVec.ofNat 32 (b.getD (4 * i + 1) 0)) (BitVec.ofNat 32 (b.getD (4 * i + 2) 0)) (BitVec.ofNat 32 (b.getD (4 * i + 3) 0))
      else (sched b i).getD (i - 16) 0 + (sched b i).getD (i - 7) 0 + sig0 ((sched b i).getD (i - 15) 0) + sig1 ((sched b i).getD (i - 2) 0)]
theorem sched_len (b : List Nat) (k : Nat) : (sched b k).length = k := by
  induction k with
  | zero => rfl
  | succ k ih => rw [sched, List.length_append, ih]; rfl
/-- What a round starts from and comes to: eight words. -/
structure St where
  a : W32
  b : W32
  c : W32
  d : W32
  e : W32
  f : W32
  g : W32
  h : W32
def St.list (s : St) : List W32 := [s.a, s.b, s.c, s.d, s.e, s.f, s.g, s.h]
def t1 (s : St) (k w : W32) : W32 := s.h + Sig1 s.e + ch s.e s.f s.g + k + w
def t2 (s : St) : W32 := Sig0 s.a + maj s.a s.b s.c
def round (s : St) (k w : W32) : St := ⟨t1 s k w + t2 s, s.a, s.b, s.c, s.d + t1 s k w, s.e, s.f, s.g⟩
/-- The first k rounds. -/
def rounds (s : St) (w : List W32) : Nat → St
  | 0 => s
  | k + 1 => round (rounds s w k) (kc k) (w.getD k 0)
def St.add (s t : St) : St := ⟨s.a + t.a, s.b + t.b, s.c + t.c, s.d + t.d, s.e + t.e, s.f + t.f, s.g + t.g, s.h + t.h⟩
def press (s : St) (b : List Nat) : St := s.add (rounds s (sched b 64) 64)
def begin : St := ⟨0x6a09e667, 0xbb67ae85, 0x3c6ef372, 0xa54ff53a, 0x510e527f, 0x9b05688c, 0x1f83d9ab, 0x5be0cd19⟩

/-- What stands behind n bytes. -/
def noughts (n : Nat) : Nat := (119 - n % 64) % 64
def eight (n : Nat) : List Nat := [n / 2 ^ 56 % 256, n / 2 ^ 48 % 256, n / 2 ^ 40 % 256, n / 2 ^ 32 % 256, n / 2 ^ 24 % 256, n / 2 ^ 16 % 256, n / 2 ^ 8 % 256, n % 256]
def behind (n : Nat) : List Nat := 128 :: (List.replicate (noughts n) 0 ++ eight (8 * n))
theorem behind_len (n : Nat) : (behind n).length = noughts n + 9 := by simp [behind, eight]
theorem behind_whole (n : Nat) : (n + (behind n).length) % 64 = 0 := by rw [behind_len]; unfold noughts; omega
theorem eight_lt (n : Nat) : ∀ x ∈ eight n, x < 256 := by
  intro x hx
  simp only [eight, List.mem_cons, List.not_mem_nil, or_false] at hx
  rcases hx with rfl | rfl | rfl | rfl | rfl | rfl | rfl | rfl <;> omega
theorem behind_lt (n : Nat) : ∀ x ∈ behind n, x < 256 := by
  intro x hx
  rcases List.mem_cons.1 hx with rfl | hx
  · omega
  · rcases List.mem_append.1 hx with hx | hx
    · rw [List.eq_of_mem_replicate hx]; omega
    · exact eight_lt _ x hx

/-- The bytes of a word, the highest first. -/
def hi (x : W32) : List Nat := [x.toNat / 16777216 % 256, x.toNat / 65536 % 256, x.toNat / 256 % 256, x.toNat % 256]
def St.bytes (s : St) : List Nat := s.list.flatMap hi
/-- All blocks pressed, one behind the other. -/
def blocks (s : St) : Nat → List Nat → St
  | 0, _ => s
  | k + 1, l => blocks (press s (l.take 64)) k (l.drop 64)
def sum (l : List Nat) : List Nat := (blocks begin ((l.length + (behind l.length).length) / 64) (l ++ behind l.length)).bytes
end Go.Proofs.Ytglkhgchbnkekaa.Sh
