/-
  RBpD: stookref10.Step, Encode.
  Mp: Maps that a call makes: what stands at each key, as a function.
  MpK: Kinds of maps: keys that are integers or pairs of them (an array of two), elements that are integers.
-/
import Derived.Test.YtaedhccmdbodlaaPk09
import Derived.Test.YtaedhccmdbodlaaPk08
import Derived.Maps.OwnSet
import Derived.WideKeyPair
import Derived.DeepKeys4
namespace Go.Proofs.Ytaedhccmdbodlaa
open Go.RowKit
set_option linter.unusedVariables false

/-- A call that answers a row, a bool and an error. -/
def IsStep (r : List Int × Bool × Nat) (w : World) (e : Ending) (w' : World) : Prop :=
  ∃ A c, e = .returned (.tuple #[.slice A r.1.length c, .bool r.2.1, .int .i64 (r.2.2 : Nat)]) ∧ OwnL iK w' w.heap.size (.slice A r.1.length c) r.1 ∧ Below w.heap.size w w'
theorem IsStep.none_b {w w' : World} {r : List Int × Bool × Nat} {e : Nat} {x : Int} (h : r = ([], false, e)) (hx : x = (e : Nat)) (hb : Below w.heap.size w w') : IsStep r w (.returned (.tuple #[.slice none 0 0, .bool false, .int .i64 x])) w' := by
  subst h hx; exact ⟨none, 0, rfl, OwnL.nil_ _ _ _, hb⟩
theorem IsStep.of {w w' : World} {r : List Int × Bool × Nat} {y : List Int} {b : Bool} {e c n : Nat} {x : Int} {A : Option Addr} (h : r = (y, b, e)) (hn : n = y.length) (hx : x = (e : Nat)) (ho : OwnL iK w' w.heap.size (.slice A n c) y) (hb : Below w.heap.size w w') :
    IsStep r w (.returned (.tuple #[.slice A n c, .bool b, .int .i64 x])) w' := by subst h hx hn; exact ⟨A, c, rfl, ho, hb⟩

namespace Bp
open Vo (Pc)
/-- What pick tells: nothing, or a place that has a next one, and a piece. -/
theorem pickE_cases (P : List Pc) (l : List Int) : (pickE P l = (0, 0, false) ∧ stepOf (jn P) l = none) ∨ (∃ (x T : Nat), pickE P l = (x, (T : Int), true) ∧ stepOf (jn P) l = some (joined l x (T : Int)) ∧ x + 1 < l.length ∧ T < P.length) := by
  unfold pickE stepOf
  cases hp : pick (jn P) l (l.length - 1) with
  | none => exact .inl ⟨rfl, rfl⟩
  | some q =>
    obtain ⟨x, t, r⟩ := q
    obtain ⟨h1, h2, -⟩ := pick_some hp
    obtain ⟨T, q, rfl, hT, -⟩ := pick_piece hp
    exact .inr ⟨x, T, rfl, rfl, by omega, (List.getElem?_eq_some_iff.1 hT).1⟩
theorem toks_step {P : List Pc} {l : List Int} {k : Nat} {x : Int} (h : ∀ t ∈ l.take k, 0 ≤ t ∧ t < (P.length : Int)) (hq : l[k]? = some x) (hx : 0 ≤ x ∧ x < (P.length : Int)) : ∀ t ∈ l.take (k + 1), 0 ≤ t ∧ t < (P.length : Int) := by
  intro t ht
  rw [take_snoc hq] at ht
  rcases List.mem_append.1 ht with ht | ht
  · exact h t ht
  · rw [List.mem_singleton] at ht; subst ht; exact hx
theorem toks_not {P : List Pc} {l : List Int} {k : Nat} {x : Int} (hq : l[k]? = some x) (hx : x < 0 ∨ (P.length : Int) ≤ x) : ¬ Toks P l := fun h => by
  have := h x (List.mem_of_getElem? hq)
  omega
end Bp

set_option maxHeartbeats 4000000 in
set_option maxRecDepth 100000 in
theorem rstepE_any (P : List Vo.Pc) (v : Value) (l : List Int) (u : Value) (B : Nat) (w : World) (hv : Lv pK w B v P) (hu : Lv iK w B u l) (hB : B ≤ w.heap.size) :
    Calls Try.prog 19 #[.agg #[v], u] w (IsStep (Bp.stepE P l) w) := by
  obtain ⟨W, hW⟩ : ∃ W, w.alloc (.cells #[v] 24) = W := ⟨_, rfl⟩
  obtain ⟨d0, hsz, hb⟩ := boxed hW
  have HM := Lib.hid (rmay_voc P v B W (hv.below_ hb hB) (Nat.le_trans hB hb.size))
  have HV := Lib.hid hv
  have HU := Lib.hid hu
  have HB0 := Lib.hid hb
  have HBB := Lib.hid hB
  have HSZ := Lib.hid hsz
  obtain ⟨A, c, rfl, -, -, -, -, -⟩ := hv
  obtain ⟨A2, c2, rfl, k1, k2, -, -, -⟩ := hu
  have hll : l.length ≤ 9223372036854775807 := by simp only [maxLen] at k2; omega
  clear hb hsz hB k1 k2
  by_cases hm : Vo.May P
  · rw [decide_eq_true hm] at HM
    by_cases hbig : 4096 < l.length
    · have HX : Hid (Bp.stepE P l = ([], false, 3)) := by unfold Hid Bp.stepE; rw [if_pos hm, if_pos hbig]
      have hbi : (4096 : Int) < (l.length : Int) := by omega
      clear hm hbig
      go_enter Try.func19, Try.ntmps19
      go_wp2_with (fail)
      refine (HM.out).mono ?_
      rintro e w1 ⟨rfl, hb1⟩
      have HB1 := Lib.hid (HB0.out.trans (hb1.mono HB0.out.size))
      clear hb1 HM
      go_wp2
      go_ret3
      exact IsStep.none_b HX.out rfl HB1.out
    · have HX : Hid (Bp.stepE P l = if Bp.Toks P l then (match Bp.stepOf (Bp.jn P) l with | none => (l, false, 0) | some m => (m, true, 0)) else ([], false, 2)) := (if_pos hm).trans (if_neg hbig)
      have hbi : ¬ (4096 : Int) < (l.length : Int) := by omega
      have hle := (Vo.may_iff.1 hm).1
      have hln : l.length ≤ 4096 := by omega
      have HST : Hid (∀ w', Below w.heap.size w w' → Calls Try.prog 42 #[.agg #[.slice A P.length c], .slice A2 l.length c2] w' (fun e w'' => e = .returned (.tuple #[.int .i64 ((Bp.pickE P l).1 : Nat), .int .i64 (Bp.pickE P l).2.1, .bool (Bp.pickE P l).2.2]) ∧ Below w'.heap.size w' w'')) := fun w' hb => rstep_any P _ l _ B w' (HV.out.below_ hb HBB.out) (HU.out.below_ hb HBB.out) (Nat.le_trans HBB.out hb.size) hln hle
      clear hm hbig
      go_enter Try.func19, Try.ntmps19
      go_wp2_with (fail)
      refine (HM.out).mono ?_
      rintro e w1 ⟨rfl, hb1⟩
      have HB1 := Lib.hid (HB0.out.trans (hb1.mono HB0.out.size))
      have d1 : w1.cell? ⟨w.heap.size, 0, none⟩ = some (.slice A P.length c) := (hb1.cell (p := ⟨w.heap.size, 0, none⟩) (by show w.heap.size < _; have := HSZ.out; omega)).trans d0
      clear hb1 HM
      go_wp2
      go_loopw [7] (fun i wr => ∃ k : Nat, k ≤ l.length ∧ i = .int .i64 k ∧ Hid (∀ t ∈ l.take k, 0 ≤ t ∧ t < (P.length : Int)) ∧ Hid (Below w.heap.size w wr) ∧ wr.cell? ⟨w.heap.size, 0, none⟩ = some (.slice A P.length c)) (fun i _ => l.length - (intOf i).toNat)
      case atStart => exact ⟨0, Nat.zero_le _, rfl, (fun t ht => by simp at ht), HB1.out, d1⟩
      case round =>
        obtain ⟨k, hk, rfl, HTk, HBr, e0⟩ := hrel
        have wk : IntKind.i64.wrap ((k : Int) + 1) = (k : Int) + 1 := by rw [IntKind.wrap_i64]; omega
        clear d1
        by_cases hlt : k < l.length
        · obtain ⟨b, off, x, rfl, hbB, hx, hq, hcx⟩ := (HU.out.below_ HBr.out HBB.out).int_ hlt
          have hki : (k : Int) < (l.length : Int) := by omega
          have hk0 : (0 : Int) ≤ (k : Int) := by omega
          by_cases hbad : x < 0
          · have HF : Hid (Bp.stepE P l = ([], false, 2)) := by unfold Hid; rw [HX.out, if_neg (Bp.toks_not hq (.inl hbad))]
            clear hq hx hbB hlt hk
            go_wp2
            go_quiet (fail)
            go_wp2
            go_ret3
            exact IsStep.none_b HF.out rfl (below_drewN HBr.out _)
          · have hx0 : (0 : Int) ≤ x := by omega
            by_cases hbig : (P.length : Int) ≤ x
            · have HF : Hid (Bp.stepE P l = ([], false, 2)) := by unfold Hid; rw [HX.out, if_neg (Bp.toks_not hq (.inr hbig))]
              clear hq hx hbB hlt hk
              go_wp2
              go_quiet (fail)
              go_wp2
              go_ret3
              exact IsStep.none_b HF.out rfl (below_drewN HBr.out _)
            · have HT2 := Lib.hid (Bp.toks_step HTk.out hq ⟨hx0, by omega⟩)
              have HLT := Lib.hid hlt
              clear hq hx hbB hlt hk
              go_wp2
              go_quiet (fail)
              generalize hW9 : wr.drewN _ = w9
              have HB9 : Hid (Below w.heap.size w w9) := by unfold Hid; rw [← hW9]; exact below_drewN HBr.out _
              have e9 : w9.cell? ⟨w.heap.size, 0, none⟩ = some (.slice A P.length c) := by rw [← hW9]; exact e0
              clear hW9 e0 hcx
              go_wp2
              go_roundw
              case rel => exact ⟨k + 1, HLT.out, by go_num, HT2.out, HB9.out, e9⟩
              case measure => simp [intOf]; have := HLT.out; omega
        · have hkn : k = l.length := by omega
          have hki : ¬ (k : Int) < (l.length : Int) := by omega
          subst hkn
          rw [List.take_length] at HTk
          have HX2 : Hid (Bp.stepE P l = match Bp.stepOf (Bp.jn P) l with | none => (l, false, 0) | some m => (m, true, 0)) := HX.out.trans (if_pos (show Bp.Toks P l from HTk.out))
          have HC := HST.out wr HBr.out
          clear hlt hk HST
          rcases Bp.pickE_cases P l with ⟨hp, hs⟩ | ⟨x, T, hp, hs, hxl, hTl⟩
          · rw [hp] at HC
            have HC1 : Hid (Calls Try.prog 42 #[.agg #[.slice A P.length c], .slice A2 l.length c2] wr (fun e w'' => e = .returned (.tuple #[.int .i64 0, .int .i64 0, .bool false]) ∧ Below wr.heap.size wr w'')) := HC
            have HF : Hid (Bp.stepE P l = (l, false, 0)) := by unfold Hid; rw [HX2.out, hs]
            clear HC hp hs
            go_wp2_with (fail)
            refine (HC1.out).mono ?_
            rintro e w2 ⟨rfl, hb2⟩
            have HB2 := Lib.hid (HBr.out.trans (hb2.mono HBr.out.size))
            have HU2 := Lib.hid (HU.out.below_ HB2.out HBB.out)
            clear hb2 HC1
            go_wp2_with (at_builtin; go_must (refine wpList_append_l _ iK rfl _ _ rfl w.heap.size (.slice none 0 0) rfl [] (OwnL.nil_ _ _ _) _ rfl B l HU2.out (by show _ * 8 ≤ _; simp only [List.length_nil]; omega) (by simp only [List.length_nil, maxLen]; omega) HB2.out.size ?_))
            intro A5 c5 w5 hA hG
            have HB5 := Lib.hid (HB2.out.grown hG HB2.out.size (by intro k hk; cases hk))
            have HO5 : Hid (OwnL iK w5 w.heap.size (.slice A5 l.length c5) l) := by
              unfold Hid
              simpa using hA
            clear hA hG HU2
            go_wp2
            go_ret3
            exact IsStep.of HF.out rfl rfl HO5.out HB5.out
          · rw [hp] at HC
            have HC1 : Hid (Calls Try.prog 42 #[.agg #[.slice A P.length c], .slice A2 l.length c2] wr (fun e w'' => e = .returned (.tuple #[.int .i64 (x : Nat), .int .i64 (T : Nat), .bool true]) ∧ Below wr.heap.size wr w'')) := HC
            have HF : Hid (Bp.stepE P l = (Bp.joined l x (T : Int), true, 0)) := by unfold Hid; rw [HX2.out, hs]
            have HJ : Hid (∀ w', Below w.heap.size w w' → Calls Try.prog 43 #[.slice A2 l.length c2, .int .i64 (x : Nat), .int .i64 (T : Nat)] w' (IsL1 iK (Bp.joined l x (T : Int)) w')) := fun w' hb => rjoined_any l _ x (T : Int) B w' (HU.out.below_ hb HBB.out) (Nat.le_trans HBB.out hb.size) hxl hln (by unfold I64; omega)
            clear HC hp hs
            go_wp2_with (fail)
            refine (HC1.out).mono ?_
            rintro e w2 ⟨rfl, hb2⟩
            have HB2 := Lib.hid (HBr.out.trans (hb2.mono HBr.out.size))
            have HJ2 := Lib.hid (HJ.out w2 HB2.out)
            clear hb2 HC1 HJ hxl hTl
            go_wp2_with (fail)
            refine (HJ2.out).mono ?_
            rintro e w3 ⟨A3, c3, rfl, ho, hb3⟩
            have HB3 := Lib.hid (HB2.out.trans (hb3.mono HB2.out.size))
            have HO3 := Lib.hid (ho.mono_ HB2.out.size)
            clear ho hb3 HJ2
            go_wp2
            go_ret3
            exact IsStep.of HF.out rfl rfl HO3.out HB3.out
  · rw [decide_eq_false hm] at HM
    have HX : Hid (Bp.stepE P l = ([], false, 11)) := by unfold Hid Bp.stepE; rw [if_neg hm]
    clear hm
    go_enter Try.func19, Try.ntmps19
    go_wp2_with (fail)
    refine (HM.out).mono ?_
    rintro e w1 ⟨rfl, hb1⟩
    have HB1 := Lib.hid (HB0.out.trans (hb1.mono HB0.out.size))
    clear hb1 HM
    go_wp2
    go_ret3
    exact IsStep.none_b HX.out rfl HB1.out
end Go.Proofs.Ytaedhccmdbodlaa
namespace Go.Proofs.Ytaedhccmdbodlaa
open Go.RowKit Go.Maps
set_option linter.unusedVariables false

/-- A kind of maps: their type, what keys and elements are written as. -/
structure MpK (P : Program) (κ β : Type) where
  t : TypeId
  k : TypeId
  e : TypeId
  key : κ → Value
  lit : κ → Lit
  ok : κ → Prop
  val : β → Value
  z : β
  read : Value → Option (DataW Unit × List MemPlace)
  dat : β → DataW Unit
  keyed : Keyed P k
  under : P.underlying t = some (.map k e)
  law : ∀ x, ok x → keyOf P k (key x) = some (lit x)
  inj : ∀ x y, key x = key y → x = y
  zero : ∀ w, (zeroValue e).run P w = .ok (val z) w
  readVal : ∀ y, read (val y) = some (dat y, [])
  readInv : ∀ v y ps, read v = some (dat y, ps) → v = val y

section
variable {P : Program} {κ β : Type} {K : MpK P κ β} {w w' : World} {b n : Nat} {f : κ → Option β}
/-- Block b is a map of at most n entries, of which f tells what stands at each key. -/
def IsMp (K : MpK P κ β) (w : World) (b n : Nat) (f : κ → Option β) : Prop :=
  ∃ D : DataW Unit, w.ownsMap P K.k K.read b n D ∧ ∀ x, K.ok x → Maps.has D (K.lit x) = (f x).isSome ∧ ∀ d, D.atKey (K.lit x) d = (match f x with | some y => K.dat y | none => d)
theorem IsMp.made (K : MpK P κ β) (w : World) : IsMp K (w.alloc (.map #[] 0)) w.heap.size 0 (fun _ => none) :=
  ⟨_, World.ownsMap_made w P K.k K.read, fun x _ => ⟨rfl, fun d => rfl⟩⟩
theorem IsMp.of_block (h : IsMp K w b n f) (hb : w'.heap[b]? = w.heap[b]?) : IsMp K w' b n f := by
  obtain ⟨D, ⟨es, clock, h1, h2, h3, h4⟩, h5⟩ := h
  exact ⟨D, ⟨es, clock, hb.trans h1, h2, h3, h4⟩, h5⟩
theorem IsMp.lt_ (h : IsMp K w b n f) : b < w.heap.size := by
  obtain ⟨D, h, _⟩ := h
  exact h.lt
theorem IsMp.drew_ (h : IsMp K w b n f) : IsMp K w.drew b n f := h.of_block rfl
theorem IsMp.below_ (h : IsMp K w b n f) {B : Nat} (hb : Below B w w') (hB : b < B) : IsMp K w' b n f := h.of_block (hb.block b hB)
theorem IsMp.turned_ {F : Nat → Prop} (h : IsMp K w b n f) (ht : Turned F w w') (hF : ¬ F b) : IsMp K w' b n f := h.of_block (ht.block b h.lt_ hF)
theorem IsMp.congr_ {g : κ → Option β} (h : IsMp K w b n f) (hg : ∀ x, K.ok x → f x = g x) : IsMp K w b n g := by
  obtain ⟨D, h1, h2⟩ := h
  exact ⟨D, h1, fun x hx => by rw [← hg x hx]; exact h2 x hx⟩
theorem IsMp.mono_ (h : IsMp K w b n f) {m : Nat} (hm : n ≤ m) : IsMp K w b m f := by
  obtain ⟨D, h1, h2⟩ := h
  exact ⟨D, h1.mono hm, h2⟩
/-- 'm[k]'. -/
theorem IsMp.look (h : IsMp K w b n f) {x : κ} (hx : K.ok x) : (Instr.lookup K.t (.map (some b)) (K.key x) false).run P w = .ok (K.val ((f x).getD K.z)) w := by
  obtain ⟨D, h1, h2⟩ := h
  obtain ⟨v, ps, hr, hv⟩ := h1.lookup K.keyed K.under (K.zero w) (K.readVal K.z) (K.law x hx)
  rw [(h2 x hx).2] at hv
  have e : v = K.val ((f x).getD K.z) := by
    cases hf : f x with
    | none => rw [hf] at hv; exact K.readInv _ _ _ hv
    | some y => rw [hf] at hv; exact K.readInv _ _ _ hv
  rw [← e]; exact hr
/-- 'v, ok := m[k]'. -/
theorem IsMp.look_ok (h : IsMp K w b n f) {x : κ} (hx : K.ok x) : (Instr.lookup K.t (.map (some b)) (K.key x) true).run P w = .ok (.tuple #[K.val ((f x).getD K.z), .bool (f x).isSome]) w := by
  obtain ⟨D, h1, h2⟩ := h
  obtain ⟨v, ps, hr, hv⟩ := h1.look_ok K.keyed K.under (K.zero w) (K.readVal K.z) (K.law x hx)
  rw [(h2 x hx).2] at hv
  rw [(h2 x hx).1] at hr
  have e : v = K.val ((f x).getD K.z) := by
    cases hf : f x with
    | none => rw [hf] at hv; exact K.readInv _ _ _ hv
    | some y => rw [hf] at hv; exact K.readInv _ _ _ hv
  rw [← e]; exact hr
/-- 'm[k] = v'. -/
theorem IsMp.upd [DecidableEq κ] (h : IsMp K w b n f) (hn : n < maxLen) {x : κ} (hx : K.ok x) (y : β) :
    ∃ w', (Instr.mapUpdate K.t (.map (some b)) (K.key x) (K.val y)).run P w = .ok () w' ∧ IsMp K w' b (n + 1) (fun k => if k = x then some y else f k) ∧ w.grownBy w' (some b) := by
  obtain ⟨D, h1, h2⟩ := h
  obtain ⟨w', hr, h3, h4⟩ := h1.update K.keyed K.under hn (K.law x hx) (K.readVal y)
  refine ⟨w', hr, ⟨_, h3, fun k hk => ?_⟩, h4⟩
  have hkl := K.keyed.key (K.law x hx)
  show Maps.has (D.put (K.lit x) (K.dat y)) (K.lit k) = (if k = x then some y else f k).isSome ∧ ∀ d, (D.put (K.lit x) (K.dat y)).atKey (K.lit k) d = (match (if k = x then some y else f k) with | some y => K.dat y | none => d)
  by_cases e : k = x
  · subst e
    rw [if_pos rfl]
    exact ⟨has_put_same h1.isMap hkl _, fun d => atKey_put_same h1.isMap hkl _ d⟩
  · rw [if_neg e]
    have hne : K.lit k ≠ K.lit x := fun h => e (K.inj k x (K.keyed.inj (K.law k hk) (by rw [h]; exact K.law x hx)))
    exact ⟨(has_put_other hne _).trans (h2 k hk).1, fun d => (atKey_put_other hne _ d).trans ((h2 k hk).2 d)⟩
end
/-- 'm[k] = v' at the operation. -/
theorem wpList_mapUpdate_mp {P : Program} {κ β : Type} [DecidableEq κ] (w : World) {ops : Array Oper} {rest : List Oper} {o : Oper} {a : Act} {Q : Exit → Act → World → Prop} (K : MpK P κ β)
    (hg : o.guard = none) (m x v : Operand) (hop : o.op = Op.mapUpdate K.t m x v) (b n : Nat) (f : κ → Option β) (hm : a.eval m = .map (some b)) (hown : IsMp K w b n f) (hn : n < maxLen) (kx : κ) (hx : a.eval x = K.key kx) (hok : K.ok kx) (y : β) (hv : a.eval v = K.val y)
    (hK : ∀ w', IsMp K w' b (n + 1) (fun k => if k = kx then some y else f k) → w.grownBy w' (some b) → wpList P ops Q rest (a.put o.dst undef) w') :
    wpList P ops Q (o :: rest) a w := by
  refine wpList_plain hg fun K' hK' => ?_
  obtain ⟨w', hrun, r1, r2⟩ := hown.upd hn hok y
  unfold Oper.wp
  simp [execOp, hop, hm, hx, hv, hrun, Result.andThen]
  exact hK' _ _ (hK w' r1 r2)
end Go.Proofs.Ytaedhccmdbodlaa
namespace Go.Proofs.Ytaedhccmdbodlaa
open Go.RowKit Go.Maps
set_option linter.unusedVariables false

/-- What an integer reads as. -/
def readInt (q : IntKind) : Value → Option (DataW Unit × List MemPlace)
  | .int q' a => if q' = q then some (.lit (.int q a), []) else none
  | _ => none
theorem readInt_val (q : IntKind) (a : Int) : readInt q (.int q a) = some (.lit (.int q a), []) := by simp [readInt]
theorem readInt_inv (q : IntKind) (v : Value) (a : Int) (ps : List MemPlace) (h : readInt q v = some (.lit (.int q a), ps)) : v = .int q a := by
  cases v with
  | int q' b =>
    simp only [readInt] at h
    split at h
    · rename_i e
      subst e
      simp at h
      rw [h.1]
    · cases h
  | _ => simp [readInt] at h
section
variable {P : Program}
/-- map[int kind]int kind. -/
def mpInt (t k e : TypeId) (qk qe : IntKind) (ht : P.underlying t = some (.map k e)) (hk : P.underlying k = some (.int qk)) (hz : ∀ w, (zeroValue e).run P w = .ok (.int qe 0) w) : MpK P Int Int where
  t := t
  k := k
  e := e
  key := fun x => .int qk x
  lit := fun x => .int qk x
  ok := fun x => (Lit.int qk x).wf = true
  val := fun y => .int qe y
  z := 0
  read := readInt qe
  dat := fun y => .lit (.int qe y)
  keyed := int_keyed hk
  under := ht
  law := fun x hx => keyOf_int_mk hk hx
  inj := fun x y h => by injection h
  zero := hz
  readVal := readInt_val qe
  readInv := readInt_inv qe
/-- map[[2]int kind]int kind. -/
def mpPair (t k ek e : TypeId) (qk qe : IntKind) (ht : P.underlying t = some (.map k e)) (A : WideMaps.ArrKey P k ek 2) (hek : P.underlying ek = some (.int qk)) (hsz : ∃ m, P.types.size = m + 1) (hlaw : WideMaps.KeyLaw P k) (hz : ∀ w, (zeroValue e).run P w = .ok (.int qe 0) w) : MpK P (Int × Int) Int where
  t := t
  k := k
  e := e
  key := fun x => .agg #[.int qk x.1, .int qk x.2]
  lit := fun x => .string (keyBytes [.int qk x.1, .int qk x.2])
  ok := fun x => (Lit.int qk x.1).wf = true ∧ (Lit.int qk x.2).wf = true
  val := fun y => .int qe y
  z := 0
  read := readInt qe
  dat := fun y => .lit (.int qe y)
  keyed := Keyed.of_law hlaw
  under := ht
  law := fun x hx => WideMaps.keyOf_pair A hek hsz hx.1 hx.2
  inj := fun x y h => by
    injection h with h
    simp at h
    exact Prod.ext h.1 h.2
  zero := hz
  readVal := readInt_val qe
  readInv := readInt_inv qe
end
end Go.Proofs.Ytaedhccmdbodlaa
