/-
  RVoFi: stookref08.Find.
  RBpC: stookref10.step (printed by wip/tools/laws/bpstep.py).
  RBpDm: Words for steps; what pick tells.
  Mp: Maps that a call makes: what stands at each key, as a function.
-/
import Derived.Test.YtkialijipcbgkaaPk07
import Derived.Test.YtkialijipcbgkaaPk04
import Derived.Test.YtkialijipcbgkaaPk08
import Derived.BigQuiet
import Derived.Deep.RegionHeld3
import Derived.Maps.OwnSet
namespace Go.Proofs.Ytkialijipcbgkaa
open Go.RowKit
set_option linter.unusedVariables false

/-- A call that answers a number and a bool, and turns nothing that was there. -/
def IsFound (r : Nat × Bool) (w : World) (e : Ending) (w' : World) : Prop := e = .returned (.tuple #[.int .i64 (r.1 : Nat), .bool r.2]) ∧ Below w.heap.size w w'

set_option maxHeartbeats 2000000 in
theorem rfind_any (P : List Vo.Pc) (v : Value) (l r : Int) (B : Nat) (w : World) (hv : Lv pK w B v P) (hB : B ≤ w.heap.size) :
    Calls Try.prog 95 #[.agg #[v], .int .i64 l, .int .i64 r] w (IsFound (Vo.findE P l r) w) := by
  obtain ⟨W, hW⟩ : ∃ W, w.alloc (.cells #[v] 41) = W := ⟨_, rfl⟩
  obtain ⟨d0, hsz, hb⟩ := boxed hW
  have HB := Lib.hid hb
  have HV := Lib.hid hv
  obtain ⟨A, cc, rfl, h1, h2, _, _⟩ := hv
  have hl : P.length ≤ 9223372036854775807 := by simp only [maxLen] at h2; omega
  obtain ⟨T, hT⟩ : ∃ T, Vo.joinOf P l r = T := ⟨_, rfl⟩
  have HN : Hid (∀ k q, k < T → P[k]? = some q → (q.join && q.left == l && q.right == r) = false) := fun k q hk hq => Vo.first_not (f := fun q => q.join && q.left == l && q.right == r) (by rw [← hT] at hk; exact hk) hq
  have HI : Hid (∀ q, P[T]? = some q → (q.join && q.left == l && q.right == r) = true) := fun q hq => Vo.first_is (f := fun q => q.join && q.left == l && q.right == r) (by rw [← hT] at hq; exact hq)
  have HT : Hid (T ≤ P.length) := by rw [← hT]; exact Vo.first_le
  have HXT : Hid (T < P.length → Vo.findE P l r = (T, true)) := fun h => by rw [← hT] at h ⊢; unfold Vo.findE; rw [if_pos h]
  have HXN : Hid (¬ T < P.length → Vo.findE P l r = (0, false)) := fun h => by rw [← hT] at h; unfold Vo.findE; rw [if_neg h]
  have HSZ := Lib.hid hsz
  clear h1 h2 hb hsz hT
  go_enter Try.func95, Try.ntmps95
  go_wp2
  go_loopw [8] (fun s wr => ∃ k : Nat, k ≤ T ∧ s = .int .i64 k ∧ Below W.heap.size W wr) (fun s _ => T + 1 - (intOf s).toNat)
  case atStart => exact ⟨0, by omega, rfl, Below.refl _ _⟩
  case round =>
    obtain ⟨k, hk, rfl, hbr⟩ := hrel
    have hTl := HT.out
    have hsz := HSZ.out
    have HBw := Lib.hid (HB.out.trans (hbr.mono HB.out.size))
    have d1 : wr.cell? ⟨w.heap.size, 0, none⟩ = some (.slice A P.length cc) := (hbr.cell (p := ⟨w.heap.size, 0, none⟩) (by show w.heap.size < _; omega)).trans d0
    have HBr := Lib.hid hbr
    clear hbr d0
    by_cases hkl : k < P.length
    · obtain ⟨b, off, q, rfl, hbB, hqok, hq, q0, q1, q2, q3, q4⟩ := (HV.out.below_ HBw.out hB).piece_ hkl
      have hki : (k : Int) < (P.length : Int) := by omega
      obtain ⟨qj, qb, ql, qr, qk⟩ := q
      simp only at q0 q1 q2 q3 q4
      obtain ⟨W3, hW3⟩ : ∃ W3, wr.alloc (.cells #[.bool qj, .int .u8 (qb : Nat), .int .i64 ql, .int .i64 qr, .int .u32 (qk : Nat)] 85) = W3 := ⟨_, rfl⟩
      have HB3 : Hid (Below W.heap.size W W3) := by unfold Hid; rw [← hW3]; exact HBr.out.alloc HBr.out.size _
      have HBw3 : Hid (Below w.heap.size w W3) := by unfold Hid; rw [← hW3]; exact HBw.out.alloc HBw.out.size _
      have hcell : ∀ (j : Nat) (u : Value), #[.bool qj, .int .u8 (qb : Nat), .int .i64 ql, .int .i64 qr, .int .u32 (qk : Nat)][j]? = some u → W3.cell? ⟨wr.heap.size, j, none⟩ = some u := fun j u hj => by
        rw [← hW3, cell_of_row _ wr.heap.size j _ _ _ (heap_alloc_new wr _)]
        exact hj
      have k0 := hcell 0 _ rfl
      have k2 := hcell 2 _ rfl
      have k3 := hcell 3 _ rfl
      clear hcell
      by_cases hlt : k < T
      · have hn := HN.out k _ hlt hq
        have HK : Hid (k + 1 ≤ T) := hlt
        simp only at hn
        cases qj with
        | false =>
          clear hn hq hqok hTl hsz
          go_wp2
          go_roundw
          case rel => exact ⟨k + 1, HK.out, by go_num, HB3.out⟩
          case measure => simp [intOf]; omega
        | true =>
          by_cases e1 : ql = l
          · subst e1
            have e2 : (qr == r) = false := by simpa using hn
            clear hn hq hqok hTl hsz
            go_wp2
            go_roundw
            case rel => exact ⟨k + 1, HK.out, by go_num, HB3.out⟩
            case measure => simp [intOf]; omega
          · have e2 : (ql == l) = false := by rw [beq_eq_false_iff_ne]; exact e1
            clear hn hq hqok hTl hsz e1
            go_wp2
            go_roundw
            case rel => exact ⟨k + 1, HK.out, by go_num, HB3.out⟩
            case measure => simp [intOf]; omega
      · obtain rfl : k = T := by omega
        have hn := HI.out _ hq
        simp at hn
        obtain ⟨⟨rfl, rfl⟩, rfl⟩ := hn
        have HX := Lib.hid (HXT.out hkl)
        clear hq hqok hTl hsz
        go_wp2
        go_ret2
        exact ⟨by rw [HX.out]; rfl, HBw3.out⟩
    · have HX := Lib.hid (HXN.out (by omega))
      have hki : ¬ (k : Int) < (P.length : Int) := by omega
      clear hTl hsz
      go_wp2
      go_ret2
      exact ⟨by rw [HX.out]; rfl, HBw.out⟩
end Go.Proofs.Ytkialijipcbgkaa
namespace Go.Proofs.Ytkialijipcbgkaa
open Go.RowKit
set_option linter.unusedVariables false

namespace Bp
open Vo (Pc joinOf findE)
/-- What step answers. -/
def pickE (P : List Pc) (l : List Int) : Nat × Int × Bool := match pick (jn P) l (l.length - 1) with | none => (0, 0, false) | some (x, t, _) => (x, t, true)
theorem find_none {P : List Pc} {x y : Int} (h : jn P x y = none) : findE P x y = (0, false) := by unfold findE; rw [if_neg (jn_none h)]
theorem find_some {P : List Pc} {x y : Int} {T r : Nat} (h : jn P x y = some ((T : Int), r)) : findE P x y = (T, true) := by
  obtain ⟨T', q, e, hq, -, -, -, -, hj⟩ := jn_some h
  have : T = T' := by omega
  subst this
  unfold findE
  rw [hj, if_pos (List.getElem?_eq_some_iff.1 hq).1]
/-- What pick tells is a piece. -/
theorem pick_piece {P : List Pc} {l : List Int} {k x r : Nat} {t : Int} (h : pick (jn P) l k = some (x, t, r)) : ∃ (T : Nat) (q : Pc), t = (T : Int) ∧ P[T]? = some q ∧ q.rank = r := by
  obtain ⟨_, h2, _⟩ := pick_some h
  obtain ⟨a, b, _, _, h3⟩ := cand_some h2
  obtain ⟨T, q, e, hq, -, -, -, hr, -⟩ := jn_some h3
  exact ⟨T, q, e, hq, hr⟩
theorem pick_off {P : List Pc} {l : List Int} {k : Nat} (h : cand (jn P) l k = none) : pick (jn P) l (k + 1) = pick (jn P) l k := by rw [pick, h]
theorem pick_first {P : List Pc} {l : List Int} {k r : Nat} {t : Int} (h : cand (jn P) l k = some (t, r)) (hp : pick (jn P) l k = none) : pick (jn P) l (k + 1) = some (k, t, r) := by rw [pick, h, hp]
theorem pick_less {P : List Pc} {l : List Int} {k r x s : Nat} {t u : Int} (h : cand (jn P) l k = some (t, r)) (hp : pick (jn P) l k = some (x, u, s)) (hr : r < s) : pick (jn P) l (k + 1) = some (k, t, r) := by rw [pick, h, hp]; simp [hr]
theorem pick_keep {P : List Pc} {l : List Int} {k r x s : Nat} {t u : Int} (h : cand (jn P) l k = some (t, r)) (hp : pick (jn P) l k = some (x, u, s)) (hr : ¬ r < s) : pick (jn P) l (k + 1) = some (x, u, s) := by rw [pick, h, hp]; simp [hr]
end Bp

/-- step's three variables. -/
def PickIs (p : Option (Nat × Int × Nat)) (a b c : Value) : Prop :=
  match p with
  | none => a = .int .i64 0 ∧ b = .int .i64 0 ∧ c = .bool false
  | some (x, t, _) => a = .int .i64 (x : Nat) ∧ b = .int .i64 t ∧ c = .bool true

theorem PickIs.off {P : List Vo.Pc} {l : List Int} {k : Nat} {a b c : Value} (h : Bp.cand (Bp.jn P) l k = none) (hp : PickIs (Bp.pick (Bp.jn P) l k) a b c) : PickIs (Bp.pick (Bp.jn P) l (k + 1)) a b c := by rw [Bp.pick_off h]; exact hp

set_option maxHeartbeats 8000000 in
set_option maxRecDepth 100000 in
theorem rstep_any (P : List Vo.Pc) (v : Value) (l : List Int) (u : Value) (B : Nat) (w : World) (hv : Lv pK w B v P) (hu : Lv iK w B u l) (hB : B ≤ w.heap.size) (hl : l.length ≤ 4096) (hP : P.length ≤ 4096) :
    Calls Try.prog 69 #[.agg #[v], u] w (fun e w' => e = .returned (.tuple #[.int .i64 ((Bp.pickE P l).1 : Nat), .int .i64 (Bp.pickE P l).2.1, .bool (Bp.pickE P l).2.2]) ∧ Below w.heap.size w w') := by
  obtain ⟨W, hW⟩ : ∃ W, w.alloc (.cells #[v] 41) = W := ⟨_, rfl⟩
  obtain ⟨d0, hsz, hb⟩ := boxed hW
  have HV := Lib.hid hv
  have HU := Lib.hid hu
  have HB0 := Lib.hid hb
  have HBB := Lib.hid hB
  have HSZ := Lib.hid hsz
  obtain ⟨A, c, rfl, -, -, -, -, -⟩ := hv
  obtain ⟨A2, c2, rfl, k1, k2, -, -, -⟩ := hu
  have HF : Hid (∀ (x y : Int) w', Below w.heap.size w w' → Calls Try.prog 95 #[.agg #[.slice A P.length c], .int .i64 x, .int .i64 y] w' (IsFound (Vo.findE P x y) w')) := fun x y w' hb => rfind_any P _ x y B w' (HV.out.below_ hb HBB.out) (Nat.le_trans HBB.out hb.size)
  have HPE : Hid (Bp.pickE P l = match Bp.pick (Bp.jn P) l (l.length - 1) with | none => (0, 0, false) | some (x, t, _) => (x, t, true)) := rfl
  obtain ⟨pe, hpe⟩ : ∃ p, Bp.pickE P l = p := ⟨_, rfl⟩
  rw [hpe] at HPE ⊢
  have HBX : Hid (∀ w', Below W.heap.size W w' → w'.cell? ⟨w.heap.size, 0, none⟩ = some (.slice A P.length c)) := fun w' hb => (hb.cell (p := ⟨w.heap.size, 0, none⟩) (by show w.heap.size < _; omega)).trans d0
  have HWW : Hid (∀ w', Below W.heap.size W w' → Below w.heap.size w w') := fun w' hb' => HB0.out.trans (hb'.mono (by omega))
  clear hb hsz hB k1 k2 hpe d0
  go_enter Try.func69, Try.ntmps69
  go_wp2
  go_loopw [7, 8, 9, 10, 11, 12] (fun xa xb xc i _ _ wr => ∃ (k : Nat) (ya yb yc : Value), xa = ya ∧ xb = yb ∧ xc = yc ∧ (k = 0 ∨ k + 1 ≤ l.length) ∧ i = .int .i64 k ∧ Hid (PickIs (Bp.pick (Bp.jn P) l k) ya yb yc) ∧ Hid (Below W.heap.size W wr)) (fun _ _ _ i _ _ _ => l.length - (intOf i).toNat)
  case atStart => exact ⟨0, _, _, _, rfl, rfl, rfl, .inl rfl, rfl, ⟨rfl, rfl, rfl⟩, Below.refl _ _⟩
  case round =>
    obtain ⟨k, xa, xb, xc, rfl, rfl, rfl, hk, rfl, HPK, hbr⟩ := hrel
    have wk : IntKind.i64.wrap ((k : Int) + 1) = (k : Int) + 1 := by rw [IntKind.wrap_i64]; omega
    by_cases hlt : k + 1 < l.length
    · have hki : (k : Int) + 1 < (l.length : Int) := by omega
      have hk0 : (0 : Int) ≤ (k : Int) := by omega
      have hk1 : (k : Int) < (l.length : Int) := by omega
      have hk2 : (0 : Int) ≤ (k : Int) + 1 := by omega
      have hk3 : ((k : Int) + 1).toNat = k + 1 := by omega
      obtain ⟨b2, o2, x, rfl, hb2, hx, hqx, hcx⟩ := HU.out.int_ (k := k) (by omega)
      obtain ⟨b2', o2', y, e2, hb2', hy, hqy, hcy⟩ := HU.out.int_ (k := k + 1) hlt
      injection e2 with e2
      injection e2 with e3 e4
      subst e3 e4
      have hcd := Bp.cand_of (J := Bp.jn P) hqx hqy
      have HBd : Hid (Below W.heap.size W wr.drew) := hbr.out.drew
      have HC0 := HF.out x y wr.drew (HWW.out _ HBd.out)
      have HCX : Hid (∀ w', Below w.heap.size w w' → w'.cell? ⟨b2, o2 + k, none⟩ = some (.int .i64 x) ∧ w'.cell? ⟨b2, o2 + (k + 1), none⟩ = some (.int .i64 y)) := fun w' hb => ⟨(hb.cell (p := ⟨b2, o2 + k, none⟩) (by show b2 < _; have := HBB.out; omega)).trans hcx, (hb.cell (p := ⟨b2, o2 + (k + 1), none⟩) (by show b2 < _; have := HBB.out; omega)).trans hcy⟩
      have s0 : wr.drew.cell? ⟨w.heap.size, 0, none⟩ = some (.slice A P.length c) ∧ wr.drew.cell? ⟨b2, o2 + k, none⟩ = some (.int .i64 x) ∧ wr.drew.cell? ⟨b2, o2 + (k + 1), none⟩ = some (.int .i64 y) := ⟨HBX.out _ HBd.out, HCX.out _ (HWW.out _ HBd.out)⟩
      have HK1 : Hid (k + 1 ≤ l.length ∧ k + 1 < l.length) := ⟨by omega, hlt⟩
      clear hx hy hqx hqy hcx hcy hb2 hb2' hlt hk hbr
      cases hj : Bp.jn P x y with
      | none =>
        rw [hj] at hcd
        rw [Bp.find_none hj] at HC0
        have HC1 : Hid (Calls Try.prog 95 #[.agg #[.slice A P.length c], .int .i64 x, .int .i64 y] wr.drew (fun e w' => e = .returned (.tuple #[.int .i64 0, .bool false]) ∧ Below wr.drew.heap.size wr.drew w')) := HC0
        have HP2 := Lib.hid (PickIs.off hcd HPK.out)
        clear HC0 hj hcd HPK
        go_wp2
        go_region_held3 (fun w' => w'.cell? ⟨w.heap.size, 0, none⟩ = some (.slice A P.length c) ∧ w'.cell? ⟨b2, o2 + k, none⟩ = some (.int .i64 x) ∧ w'.cell? ⟨b2, o2 + (k + 1), none⟩ = some (.int .i64 y))
          (first | exact s0 | exact s1)
          (first | (go_at_call 95; (with_reducible refine HC1.out.mono ?_); rintro en w3 ⟨rfl, hb3⟩; have HBn := Lib.hid (HBd.out.trans (hb3.mono HBd.out.size)); have s1 := (⟨HBX.out w3 HBn.out, HCX.out w3 (HWW.out w3 HBn.out)⟩ : w3.cell? ⟨w.heap.size, 0, none⟩ = some (.slice A P.length c) ∧ w3.cell? ⟨b2, o2 + k, none⟩ = some (.int .i64 x) ∧ w3.cell? ⟨b2, o2 + (k + 1), none⟩ = some (.int .i64 y)); clear hb3))
        all_goals (
          have m0 := HBX.out w3 HBn.out
          clear s0 s1 HC1 HBd HCX HF
          go_wp2
          go_quiet (fail)
          generalize hW9 : w3.drewN _ = w9
          have HB9 : Hid (Below W.heap.size W w9) := by unfold Hid; rw [← hW9]; exact below_drewN HBn.out _
          clear hW9 HBn
          go_wp2
          go_roundw
          case rel => exact ⟨k + 1, _, _, _, rfl, rfl, rfl, .inr HK1.out.2, by go_num, HP2.out, HB9.out⟩
          case measure => simp [intOf]; have := HK1.out; omega)
      | some tr =>
        obtain ⟨t, r⟩ := tr
        rw [hj] at hcd
        obtain ⟨T, q, rfl, hTq, -, -, -, rfl, -⟩ := Bp.jn_some hj
        rw [Bp.find_some hj] at HC0
        have HC1 : Hid (Calls Try.prog 95 #[.agg #[.slice A P.length c], .int .i64 x, .int .i64 y] wr.drew (fun e w' => e = .returned (.tuple #[.int .i64 (T : Nat), .bool true]) ∧ Below wr.drew.heap.size wr.drew w')) := HC0
        cases hp : Bp.pick (Bp.jn P) l k with
        | none =>
          rw [hp] at HPK
          obtain ⟨rfl, rfl, rfl⟩ := HPK.out
          have HP2 : Hid (PickIs (Bp.pick (Bp.jn P) l (k + 1)) (.int .i64 (k : Nat)) (.int .i64 (T : Nat)) (.bool true)) := by unfold Hid; rw [Bp.pick_first hcd hp]; exact ⟨rfl, rfl, rfl⟩
          clear HC0 hj hcd HPK hp hTq
          go_wp2
          go_region_held3 (fun w' => w'.cell? ⟨w.heap.size, 0, none⟩ = some (.slice A P.length c) ∧ w'.cell? ⟨b2, o2 + k, none⟩ = some (.int .i64 x) ∧ w'.cell? ⟨b2, o2 + (k + 1), none⟩ = some (.int .i64 y))
            (first | exact s0 | exact s1)
            (first | (go_at_call 95; (with_reducible refine HC1.out.mono ?_); rintro en w3 ⟨rfl, hb3⟩; have HBn := Lib.hid (HBd.out.trans (hb3.mono HBd.out.size)); have s1 := (⟨HBX.out w3 HBn.out, HCX.out w3 (HWW.out w3 HBn.out)⟩ : w3.cell? ⟨w.heap.size, 0, none⟩ = some (.slice A P.length c) ∧ w3.cell? ⟨b2, o2 + k, none⟩ = some (.int .i64 x) ∧ w3.cell? ⟨b2, o2 + (k + 1), none⟩ = some (.int .i64 y)); clear hb3))
          all_goals (
            have m0 := HBX.out w3 HBn.out
            clear s0 s1 HC1 HBd HCX HF
            go_wp2
            go_quiet (fail)
            generalize hW9 : w3.drewN _ = w9
            have HB9 : Hid (Below W.heap.size W w9) := by unfold Hid; rw [← hW9]; exact below_drewN HBn.out _
            clear hW9 HBn
            go_wp2
            go_roundw
            case rel => exact ⟨k + 1, _, _, _, rfl, rfl, rfl, .inr HK1.out.2, by go_num, HP2.out, HB9.out⟩
            case measure => simp [intOf]; have := HK1.out; omega)
        | some pk =>
          obtain ⟨x0, t0, r0⟩ := pk
          rw [hp] at HPK
          obtain ⟨rfl, rfl, rfl⟩ := HPK.out
          obtain ⟨T0, q0, rfl, hT0, rfl⟩ := Bp.pick_piece hp
          have hTl := (List.getElem?_eq_some_iff.1 hTq).1
          have hT0l := (List.getElem?_eq_some_iff.1 hT0).1
          obtain ⟨b, off, q', rfl, hbB, -, hq', -, -, -, -, c4⟩ := HV.out.piece_ hTl
          obtain ⟨b', off', q0', e5, -, -, hq0', -, -, -, -, d4⟩ := HV.out.piece_ hT0l
          injection e5 with e5
          injection e5 with e6 e7
          subst e6 e7
          rw [hTq] at hq'
          rw [hT0] at hq0'
          obtain rfl := Option.some.inj hq'
          obtain rfl := Option.some.inj hq0'
          have HR4 : Hid (∀ w', Below w.heap.size w w' → w'.cell? ⟨b, off + T * 5 + 4, none⟩ = some (.int .u32 (q.rank : Nat)) ∧ w'.cell? ⟨b, off + T0 * 5 + 4, none⟩ = some (.int .u32 (q0.rank : Nat))) := fun w' hb => ⟨(hb.cell (p := ⟨b, off + T * 5 + 4, none⟩) (by show b < _; have := HBB.out; omega)).trans c4, (hb.cell (p := ⟨b, off + T0 * 5 + 4, none⟩) (by show b < _; have := HBB.out; omega)).trans d4⟩
          have i1 : (0 : Int) ≤ (T : Int) := by omega
          have i2 : (T : Int) < (P.length : Int) := by omega
          have i3 : (0 : Int) ≤ (T0 : Int) := by omega
          have i4 : (T0 : Int) < (P.length : Int) := by omega
          obtain ⟨r, hr⟩ : ∃ r, q.rank = r := ⟨_, rfl⟩
          obtain ⟨r0, hr0⟩ : ∃ r, q0.rank = r := ⟨_, rfl⟩
          rw [hr] at HR4 hcd
          rw [hr0] at HR4 hp
          by_cases hrr : r < r0
          · have HP2 : Hid (PickIs (Bp.pick (Bp.jn P) l (k + 1)) (.int .i64 (k : Nat)) (.int .i64 (T : Nat)) (.bool true)) := by unfold Hid; rw [Bp.pick_less hcd hp hrr]; exact ⟨rfl, rfl, rfl⟩
            have hdr : (r : Int) < (r0 : Int) := by omega
            clear HC0 hj hcd HPK hp hTq hT0 hTl hT0l hbB c4 d4 hr hr0 hq' hq0' hrr
            go_wp2
            go_region_held3 (fun w' => w'.cell? ⟨w.heap.size, 0, none⟩ = some (.slice (some ⟨b, off, none⟩) P.length c) ∧ w'.cell? ⟨b2, o2 + k, none⟩ = some (.int .i64 x) ∧ w'.cell? ⟨b2, o2 + (k + 1), none⟩ = some (.int .i64 y))
              (first | exact s0 | exact s1)
              (first | (go_at_call 95; (with_reducible refine HC1.out.mono ?_); rintro en w3 ⟨rfl, hb3⟩; have HBn := Lib.hid (HBd.out.trans (hb3.mono HBd.out.size)); have s1 := (⟨HBX.out w3 HBn.out, HCX.out w3 (HWW.out w3 HBn.out)⟩ : w3.cell? ⟨w.heap.size, 0, none⟩ = some (.slice (some ⟨b, off, none⟩) P.length c) ∧ w3.cell? ⟨b2, o2 + k, none⟩ = some (.int .i64 x) ∧ w3.cell? ⟨b2, o2 + (k + 1), none⟩ = some (.int .i64 y)); clear hb3))
            all_goals (
              have m0 := HBX.out w3 HBn.out
              obtain ⟨m1, m2⟩ := HR4.out w3 (HWW.out w3 HBn.out)
              clear s0 s1 HC1 HBd HCX HF
              go_wp2
              go_quiet (fail)
              generalize hW9 : w3.drewN _ = w9
              have HB9 : Hid (Below W.heap.size W w9) := by unfold Hid; rw [← hW9]; exact below_drewN HBn.out _
              clear hW9 HBn
              go_wp2
              go_roundw
              case rel => exact ⟨k + 1, _, _, _, rfl, rfl, rfl, .inr HK1.out.2, by go_num, HP2.out, HB9.out⟩
              case measure => simp [intOf]; have := HK1.out; omega)
          · have HP2 : Hid (PickIs (Bp.pick (Bp.jn P) l (k + 1)) (.int .i64 (x0 : Nat)) (.int .i64 (T0 : Nat)) (.bool true)) := by unfold Hid; rw [Bp.pick_keep hcd hp hrr]; exact ⟨rfl, rfl, rfl⟩
            have hdr : ¬ (r : Int) < (r0 : Int) := by omega
            clear HC0 hj hcd HPK hp hTq hT0 hTl hT0l hbB c4 d4 hr hr0 hq' hq0' hrr
            go_wp2
            go_region_held3 (fun w' => w'.cell? ⟨w.heap.size, 0, none⟩ = some (.slice (some ⟨b, off, none⟩) P.length c) ∧ w'.cell? ⟨b2, o2 + k, none⟩ = some (.int .i64 x) ∧ w'.cell? ⟨b2, o2 + (k + 1), none⟩ = some (.int .i64 y))
              (first | exact s0 | exact s1)
              (first | (go_at_call 95; (with_reducible refine HC1.out.mono ?_); rintro en w3 ⟨rfl, hb3⟩; have HBn := Lib.hid (HBd.out.trans (hb3.mono HBd.out.size)); have s1 := (⟨HBX.out w3 HBn.out, HCX.out w3 (HWW.out w3 HBn.out)⟩ : w3.cell? ⟨w.heap.size, 0, none⟩ = some (.slice (some ⟨b, off, none⟩) P.length c) ∧ w3.cell? ⟨b2, o2 + k, none⟩ = some (.int .i64 x) ∧ w3.cell? ⟨b2, o2 + (k + 1), none⟩ = some (.int .i64 y)); clear hb3))
            all_goals (
              have m0 := HBX.out w3 HBn.out
              obtain ⟨m1, m2⟩ := HR4.out w3 (HWW.out w3 HBn.out)
              clear s0 s1 HC1 HBd HCX HF
              go_wp2
              go_quiet (fail)
              generalize hW9 : w3.drewN _ = w9
              have HB9 : Hid (Below W.heap.size W w9) := by unfold Hid; rw [← hW9]; exact below_drewN HBn.out _
              clear hW9 HBn
              go_wp2
              go_roundw
              case rel => exact ⟨k + 1, _, _, _, rfl, rfl, rfl, .inr HK1.out.2, by go_num, HP2.out, HB9.out⟩
              case measure => simp [intOf]; have := HK1.out; omega)
    · have hki : ¬ (k : Int) + 1 < (l.length : Int) := by omega
      have HE : Hid (l.length - 1 = k) := by unfold Hid; omega
      rw [HE.out] at HPE
      have HBF := Lib.hid (HWW.out _ hbr.out)
      clear hk hlt
      cases hp : Bp.pick (Bp.jn P) l k with
      | none =>
        rw [hp] at HPK HPE
        obtain ⟨rfl, rfl, rfl⟩ := HPK.out
        clear hp
        go_wp2
        go_ret3
        exact ⟨by rw [HPE.out]; rfl, HBF.out⟩
      | some pk =>
        obtain ⟨x0, t0, r0⟩ := pk
        rw [hp] at HPK HPE
        obtain ⟨rfl, rfl, rfl⟩ := HPK.out
        clear hp
        go_wp2
        go_ret3
        exact ⟨by rw [HPE.out]; rfl, HBF.out⟩
end Go.Proofs.Ytkialijipcbgkaa
namespace Go.Proofs.Ytkialijipcbgkaa
open Go.RowKit
set_option linter.unusedVariables false

/-- A call that answers a row, a bool and an error. -/
def IsStep (r : List Int × Bool × Nat) (w : World) (e : Ending) (w' : World) : Prop :=
  ∃ A c, e = .returned (.tuple #[.slice A r.1.length c, .bool r.2.1, .int .i64 (r.2.2 : Nat)]) ∧ OwnL iK w' w.heap.size (.slice A r.1.length c) r.1 ∧ Below w.heap.size w w'
theorem IsStep.none_b {w w' : World} {r : List Int × Bool × Nat} {e : Nat} {x : Int} (h : r = ([], false, e)) (hx : x = (e : Nat)) (hb : Below w.heap.size w w') : IsStep r w (.returned (.tuple #[.slice none 0 0, .bool false, .int .i64 x])) w' := by
  subst h hx; exact ⟨none, 0, rfl, OwnL.nil_ _ _ _, hb⟩
theorem IsStep.of {w w' : World} {r : List Int × Bool × Nat} {y : List Int} {b : Bool} {e c n : Nat} {x : Int} {A : Option Addr} (h : r = (y, b, e)) (hn : n = y.length) (hx : x = (e : Nat)) (ho : OwnL iK w' w.heap.size (.slice A n c) y) (hb : Below w.heap.size w w') :
    IsStep r w (.returned (.tuple #[.slice A n c, .bool b, .int .i64 x])) w' := by subst h hx hn; exact ⟨A, c, rfl, ho, hb⟩

namespace Bp
open Vo (Pc)
/-- What pick tells: nothing, or a place that has a next one, and a piece. -/
theorem pickE_cases (P : List Pc) (l : List Int) : (pickE P l = (0, 0, false) ∧ stepOf (jn P) l = none) ∨ (∃ (x T : Nat), pickE P l = (x, (T : Int), true) ∧ stepOf (jn P) l = some (joined l x (T : Int)) ∧ x + 1 < l.length ∧ T < P.length) := by
  unfold pickE stepOf
  cases hp : pick (jn P) l (l.length - 1) with
  | none => exact .inl ⟨rfl, rfl⟩
  | some q =>
    obtain ⟨x, t, r⟩ := q
    obtain ⟨h1, h2, -⟩ := pick_some hp
    obtain ⟨T, q, rfl, hT, -⟩ := pick_piece hp
    exact .inr ⟨x, T, rfl, rfl, by omega, (List.getElem?_eq_some_iff.1 hT).1⟩
theorem toks_step {P : List Pc} {l : List Int} {k : Nat} {x : Int} (h : ∀ t ∈ l.take k, 0 ≤ t ∧ t < (P.length : Int)) (hq : l[k]? = some x) (hx : 0 ≤ x ∧ x < (P.length : Int)) : ∀ t ∈ l.take (k + 1), 0 ≤ t ∧ t < (P.length : Int) := by
  intro t ht
  rw [take_snoc hq] at ht
  rcases List.mem_append.1 ht with ht | ht
  · exact h t ht
  · rw [List.mem_singleton] at ht; subst ht; exact hx
theorem toks_not {P : List Pc} {l : List Int} {k : Nat} {x : Int} (hq : l[k]? = some x) (hx : x < 0 ∨ (P.length : Int) ≤ x) : ¬ Toks P l := fun h => by
  have := h x (List.mem_of_getElem? hq)
  omega
end Bp
end Go.Proofs.Ytkialijipcbgkaa
namespace Go.Proofs.Ytkialijipcbgkaa
open Go.RowKit Go.Maps
set_option linter.unusedVariables false

/-- A kind of maps: their type, what keys and elements are written as. -/
structure MpK (P : Program) (κ β : Type) where
  t : TypeId
  k : TypeId
  e : TypeId
  key : κ → Value
  lit : κ → Lit
  ok : κ → Prop
  val : β → Value
  z : β
  read : Value → Option (DataW Unit × List MemPlace)
  dat : β → DataW Unit
  keyed : Keyed P k
  under : P.underlying t = some (.map k e)
  law : ∀ x, ok x → keyOf P k (key x) = some (lit x)
  inj : ∀ x y, key x = key y → x = y
  zero : ∀ w, (zeroValue e).run P w = .ok (val z) w
  readVal : ∀ y, read (val y) = some (dat y, [])
  readInv : ∀ v y ps, read v = some (dat y, ps) → v = val y

section
variable {P : Program} {κ β : Type} {K : MpK P κ β} {w w' : World} {b n : Nat} {f : κ → Option β}
/-- Block b is a map of at most n entries, of which f tells what stands at each key. -/
def IsMp (K : MpK P κ β) (w : World) (b n : Nat) (f : κ → Option β) : Prop :=
  ∃ D : DataW Unit, w.ownsMap P K.k K.read b n D ∧ ∀ x, K.ok x → Maps.has D (K.lit x) = (f x).isSome ∧ ∀ d, D.atKey (K.lit x) d = (match f x with | some y => K.dat y | none => d)
theorem IsMp.made (K : MpK P κ β) (w : World) : IsMp K (w.alloc (.map #[] 0)) w.heap.size 0 (fun _ => none) :=
  ⟨_, World.ownsMap_made w P K.k K.read, fun x _ => ⟨rfl, fun d => rfl⟩⟩
theorem IsMp.of_block (h : IsMp K w b n f) (hb : w'.heap[b]? = w.heap[b]?) : IsMp K w' b n f := by
  obtain ⟨D, ⟨es, clock, h1, h2, h3, h4⟩, h5⟩ := h
  exact ⟨D, ⟨es, clock, hb.trans h1, h2, h3, h4⟩, h5⟩
theorem IsMp.lt_ (h : IsMp K w b n f) : b < w.heap.size := by
  obtain ⟨D, h, _⟩ := h
  exact h.lt
theorem IsMp.drew_ (h : IsMp K w b n f) : IsMp K w.drew b n f := h.of_block rfl
theorem IsMp.below_ (h : IsMp K w b n f) {B : Nat} (hb : Below B w w') (hB : b < B) : IsMp K w' b n f := h.of_block (hb.block b hB)
theorem IsMp.turned_ {F : Nat → Prop} (h : IsMp K w b n f) (ht : Turned F w w') (hF : ¬ F b) : IsMp K w' b n f := h.of_block (ht.block b h.lt_ hF)
theorem IsMp.congr_ {g : κ → Option β} (h : IsMp K w b n f) (hg : ∀ x, K.ok x → f x = g x) : IsMp K w b n g := by
  obtain ⟨D, h1, h2⟩ := h
  exact ⟨D, h1, fun x hx => by rw [← hg x hx]; exact h2 x hx⟩
theorem IsMp.mono_ (h : IsMp K w b n f) {m : Nat} (hm : n ≤ m) : IsMp K w b m f := by
  obtain ⟨D, h1, h2⟩ := h
  exact ⟨D, h1.mono hm, h2⟩
/-- 'm[k]'. -/
theorem IsMp.look (h : IsMp K w b n f) {x : κ} (hx : K.ok x) : (Instr.lookup K.t (.map (some b)) (K.key x) false).run P w = .ok (K.val ((f x).getD K.z)) w := by
  obtain ⟨D, h1, h2⟩ := h
  obtain ⟨v, ps, hr, hv⟩ := h1.lookup K.keyed K.under (K.zero w) (K.readVal K.z) (K.law x hx)
  rw [(h2 x hx).2] at hv
  have e : v = K.val ((f x).getD K.z) := by
    cases hf : f x with
    | none => rw [hf] at hv; exact K.readInv _ _ _ hv
    | some y => rw [hf] at hv; exact K.readInv _ _ _ hv
  rw [← e]; exact hr
/-- 'v, ok := m[k]'. -/
theorem IsMp.look_ok (h : IsMp K w b n f) {x : κ} (hx : K.ok x) : (Instr.lookup K.t (.map (some b)) (K.key x) true).run P w = .ok (.tuple #[K.val ((f x).getD K.z), .bool (f x).isSome]) w := by
  obtain ⟨D, h1, h2⟩ := h
  obtain ⟨v, ps, hr, hv⟩ := h1.look_ok K.keyed K.under (K.zero w) (K.readVal K.z) (K.law x hx)
  rw [(h2 x hx).2] at hv
  rw [(h2 x hx).1] at hr
  have e : v = K.val ((f x).getD K.z) := by
    cases hf : f x with
    | none => rw [hf] at hv; exact K.readInv _ _ _ hv
    | some y => rw [hf] at hv; exact K.readInv _ _ _ hv
  rw [← e]; exact hr
/-- 'm[k] = v'. -/
theorem IsMp.upd [DecidableEq κ] (h : IsMp K w b n f) (hn : n < maxLen) {x : κ} (hx : K.ok x) (y : β) :
    ∃ w', (Instr.mapUpdate K.t (.map (some b)) (K.key x) (K.val y)).run P w = .ok () w' ∧ IsMp K w' b (n + 1) (fun k => if k = x then some y else f k) ∧ w.grownBy w' (some b) := by
  obtain ⟨D, h1, h2⟩ := h
  obtain ⟨w', hr, h3, h4⟩ := h1.update K.keyed K.under hn (K.law x hx) (K.readVal y)
  refine ⟨w', hr, ⟨_, h3, fun k hk => ?_⟩, h4⟩
  have hkl := K.keyed.key (K.law x hx)
  show Maps.has (D.put (K.lit x) (K.dat y)) (K.lit k) = (if k = x then some y else f k).isSome ∧ ∀ d, (D.put (K.lit x) (K.dat y)).atKey (K.lit k) d = (match (if k = x then some y else f k) with | some y => K.dat y | none => d)
  by_cases e : k = x
  · subst e
    rw [if_pos rfl]
    exact ⟨has_put_same h1.isMap hkl _, fun d => atKey_put_same h1.isMap hkl _ d⟩
  · rw [if_neg e]
    have hne : K.lit k ≠ K.lit x := fun h => e (K.inj k x (K.keyed.inj (K.law k hk) (by rw [h]; exact K.law x hx)))
    exact ⟨(has_put_other hne _).trans (h2 k hk).1, fun d => (atKey_put_other hne _ d).trans ((h2 k hk).2 d)⟩
end
/-- 'm[k] = v' at the operation. -/
theorem wpList_mapUpdate_mp {P : Program} {κ β : Type} [DecidableEq κ] (w : World) {ops : Array Oper} {rest : List Oper} {o : Oper} {a : Act} {Q : Exit → Act → World → Prop} (K : MpK P κ β)
    (hg : o.guard = none) (m x v : Operand) (hop : o.op = Op.mapUpdate K.t m x v) (b n : Nat) (f : κ → Option β) (hm : a.eval m = .map (some b)) (hown : IsMp K w b n f) (hn : n < maxLen) (kx : κ) (hx : a.eval x = K.key kx) (hok : K.ok kx) (y : β) (hv : a.eval v = K.val y)
    (hK : ∀ w', IsMp K w' b (n + 1) (fun k => if k = kx then some y else f k) → w.grownBy w' (some b) → wpList P ops Q rest (a.put o.dst undef) w') :
    wpList P ops Q (o :: rest) a w := by
  refine wpList_plain hg fun K' hK' => ?_
  obtain ⟨w', hrun, r1, r2⟩ := hown.upd hn hok y
  unfold Oper.wp
  simp [execOp, hop, hm, hx, hv, hrun, Result.andThen]
  exact hK' _ _ (hK w' r1 r2)
end Go.Proofs.Ytkialijipcbgkaa
