/- Parts of the proof. -/
import Derived.Test.YtiafeniflkikeaaGreatPm36
import Derived.Test.YtiafeniflkikeaaGreatPm38
import Derived.Test.YtiafeniflkikeaaGreatPm39
import Derived.Test.YtiafeniflkikeaaGreatPm31
import Derived.Test.YtiafeniflkikeaaGreatPm40
import Derived.Test.YtiafeniflkikeaaGreatPm29
import Derived.Test.YtiafeniflkikeaaGreatPm28
import Derived.Test.YtiafeniflkikeaaGreatPm32
import Derived.Test.YtiafeniflkikeaaGreatPm05
import Derived.BigQuiet
import Derived.Test.YtiafeniflkikeaaGreatPm06
import Derived.Test.YtiafeniflkikeaaGreatPm10
import Derived.Test.YtiafeniflkikeaaGreatPm13
import Derived.Deep.RegionHeld3
import Derived.Test.YtiafeniflkikeaaGreatPm11
namespace Go.Proofs.YtiafeniflkikeaaGreat
open Go.RowKit
theorem ppopen_some {w : World} {fd : Fp} {t : Sf.St} {bf : Nat} (name : ByteArray) (cache : Int) (hD : PDisk w fd t bf) (hn : name.size ≤ 4096) (hc : I64 cache) (s0 : Pp.S) (ho : Pp.openE t name cache = (some s0, 0)) :
  Calls Tryz.prog 7 #[.pointer (some ⟨bf, 0, none⟩), .string name, .int .i64 cache] w (fun e w' => Below w.heap.size w w' ∧ ∃ b f', e = .returned (.tuple #[.pointer (some ⟨b, 0, none⟩), .int .i64 0]) ∧ PPager w' f' s0 (Sf.now (Sf.fileAt t (Sf.get t name).1)) b bf ∧ f'.From w.heap.size) := by
 refine (ppopen_any name cache hD hn hc).mono (fun e w' h => ?_)
 obtain ⟨h0, ⟨h1, _⟩ | ⟨s, b, f', h1, h2, h3, h4⟩⟩ := h
 ·rw [ho] at h1; cases h1
 ·rw [ho] at h1
  obtain rfl : s0 = s := Option.some.inj (Prod.mk.inj h1).1
  exact ⟨h0, b, f', h2, h3, h4⟩
end Go.Proofs.YtiafeniflkikeaaGreat
namespace Go.Proofs.YtiafeniflkikeaaGreat.Pp
theorem commit_ok {m : Pa.M} {r : Rt.Root} {free : Int} (h : (Pa.commit m r free).2 = 0) :
  Rt.May (Pa.rootOf m r) ∧ (Pa.commit m r free).1 = ⟨Pa.rootOf m r, (Pa.keep m.l).map Pa.used, Pa.sizeL m.size m.l⟩ := by
 have e0 : Pa.commit m r free = if Pa.there m.l r.page = false ∨ ¬ Rt.May (Pa.rootOf m r) then (m, 2) else if free < (Pa.sizeL m.size m.l : Int) - m.size then (m, 9) else (⟨Pa.rootOf m r, (Pa.keep m.l).map Pa.used, Pa.sizeL m.size m.l⟩, 0) := rfl
 by_cases h1 : Pa.there m.l r.page = false ∨ ¬ Rt.May (Pa.rootOf m r)
 ·rw [e0, if_pos h1] at h; simp at h
 ·by_cases h2 : free < (Pa.sizeL m.size m.l : Int) - m.size
  ·rw [e0, if_neg h1, if_pos h2] at h; simp at h
  ·rw [e0, if_neg h1, if_neg h2]
   refine ⟨?_, rfl⟩
   by_cases hm : Rt.May (Pa.rootOf m r)
   ·exact hm
   ·exact absurd (.inr hm) h1
theorem commit_no {m : Pa.M} {r : Rt.Root} {free : Int} (h : (Pa.commit m r free).2 ≠ 0) : (Pa.commit m r free).1 = m := by
 have e0 : Pa.commit m r free = if Pa.there m.l r.page = false ∨ ¬ Rt.May (Pa.rootOf m r) then (m, 2) else if free < (Pa.sizeL m.size m.l : Int) - m.size then (m, 9) else (⟨Pa.rootOf m r, (Pa.keep m.l).map Pa.used, Pa.sizeL m.size m.l⟩, 0) := rfl
 by_cases h1 : Pa.there m.l r.page = false ∨ ¬ Rt.May (Pa.rootOf m r)
 ·rw [e0, if_pos h1]
 ·by_cases h2 : free < (Pa.sizeL m.size m.l : Int) - m.size
  ·rw [e0, if_neg h1, if_pos h2]
  ·rw [e0, if_neg h1, if_neg h2] at h; simp at h
theorem mem_bare {l l' : List Pa.Page} (h : l.map bare = l'.map bare) {x : Pa.Page} (hx : x ∈ l') : ∃ y ∈ l, bare y = bare x := by
 have : bare x ∈ l.map bare := by rw [h]; exact List.mem_map.2 ⟨x, hx, rfl⟩
 obtain ⟨y, hy, e⟩ := List.mem_map.1 this
 exact ⟨y, hy, e⟩
theorem Goes.commit {s : S} {F F' : List Nat} {m : Pa.M} (h : Goes s F m) {r : Rt.Root} {free : Int} (hc : (Pa.commit m r free).2 = 0) (hn : New s F F' (Pa.rootOf m r)) :
  Goes { s with root := Pa.rootOf m r, l := (Pa.keep s.l).map Pa.used } F' (Pa.commit m r free).1 := by
 obtain ⟨hm, he⟩ := commit_ok hc
 have hsl : ∀ z, Pa.sizeL z s.l = Pa.sizeL z m.l := fun z => by rw [← sizeL_bare z s.l, ← sizeL_bare z m.l, h.l]
 have hlen : F'.length = Pa.sizeL m.size m.l := by rw [hn.len, hsl, h.size]
 have hmem : ∀ x ∈ (Pa.keep m.l).map Pa.used, ∃ y ∈ m.l, y.state ≠ 3 ∧ x = Pa.used y := fun x hx => by
  obtain ⟨y, hy, rfl⟩ := List.mem_map.1 hx
  have h1 := List.mem_filter.1 hy
  exact ⟨y, h1.1, by simpa using h1.2, rfl⟩
 rw [he]
 refine ⟨rfl, kept_eq h.l, ⟨hm, rising_map (rising_filter h.ok.rise _) (fun _ => rfl), fun x hx => ?_⟩, hlen.symm, fun x hx _ => ?_, fun x hx _ => ?_, hn.root⟩
 ·obtain ⟨y, hy, _, rfl⟩ := hmem x hx
  have := h.ok.from2 y hy
  exact ⟨this.1, this.2.1, .inl rfl, this.2.2.2⟩
 ·obtain ⟨y, hy, h3, rfl⟩ := hmem x hx
  have hy2 := h.ok.from2 y hy
  show rdE F' y.n = (y.kind, y.body, 0)
  by_cases h2 : y.state = 2
  ·obtain ⟨z, hz, e⟩ := mem_bare h.l hy
   have hzs : z.state = 2 := by rw [← bare_state z, e, bare_state]; exact h2
   rw [bare_pend hzs, bare_pend h2] at e
   subst e
   refine rdE_of ?_ ?_
   ·rw [hlen]; have := sizeL_ge (s := m.size) hy h2; omega
   ·rw [hn.pend _ hz h2]; exact getE_page hy2.2.1 hy2.2.2.2.2.1
  ·obtain ⟨h4, h5⟩ := rdE_ok (h.page y hy h2)
   obtain ⟨z, hz, e⟩ := mem_bare h.l hy
   have hzs : z.state ≠ 2 := by rw [← bare_state z, e, bare_state]; exact h2
   have hzn : z.n = y.n := by rw [← bare_n z, e, bare_n]
   have hp := hn.used z hz hzs (by rw [hzn]; exact hy2.2.1) (by rw [hzn]; exact h4)
   rw [hzn] at hp
   refine rdE_of ?_ (by rw [hp]; exact h5)
   rw [hlen]; have := sizeL_base m.l m.size; have := h.size; omega
 ·obtain ⟨y, hy, h3, rfl⟩ := hmem x hx
  exact pages_more h.ok.rise (fun z hz => (h.ok.from2 z hz).1) y hy h3
theorem find_bare {s : S} {F : List Nat} {m : Pa.M} (h : Goes s F m) (n : Int) : readE s F n = Pa.read m.l n := by
 unfold readE Pa.read Pa.find
 rw [idx_eq h.l n]
 cases hq : Pa.idx m.l n with
 | none => rfl
 | some i =>
  obtain ⟨y, hy, hyn⟩ := Pa.idx_lt hq
  have hl := at_eq h.l i
  rw [hy] at hl
  cases hx : s.l[i]? with
  | none => rw [hx] at hl; cases hl
  | some x =>
   rw [hx] at hl
   have hb : bare x = bare y := Option.some.inj hl
   have hs : x.state = y.state := by rw [← bare_state x, ← bare_state y, hb]
   have hn : x.n = y.n := by rw [← bare_n x, ← bare_n y, hb]
   simp only [Option.bind_some, hx, hy]
   by_cases h2 : y.state = 2
   ·rw [bare_pend (by omega), bare_pend h2] at hb
    rw [if_pos (by omega), hb]
   ·rw [if_neg (by omega), hn]
    exact h.page y (List.mem_of_getElem? hy) h2
end Go.Proofs.YtiafeniflkikeaaGreat.Pp
namespace Go.Proofs.YtiafeniflkikeaaGreat
open Go.RowKit
set_option linter.unusedVariables false
theorem pa_fit_new : Rt.Fit Pa.new.root := by constructor <;> simp [Pa.new, I64]
theorem pa_built_new : Tryz.prog.built 37 [(0, .agg #[.int .u64 1, .int .i64 0, .int .i64 2, .int .u64 0, .int .u64 1, .int .i64 0, .int .i64 0]), (2, .int .i64 1024)] = some (paC Pa.new.root none 0 0 1024) := by kernel_rfl
set_option maxHeartbeats 1000000 in
set_option maxRecDepth 100000 in
theorem rpanew_any (R : Nat → Prop) (w : World) : Calls Tryz.prog 10 #[] w (IsPa R Pa.new w) := by
  have hz := (zero_of_info pa_zero).1
  obtain ⟨Z, hZ⟩ : ∃ Z, none9 = Z := ⟨_, rfl⟩
  have hzs : Z.size = 9 := by rw [← hZ]; rfl
  rw [hZ] at hz
  have h2 := pa_built_new
  obtain ⟨C, hC⟩ : ∃ D, paC Pa.new.root none 0 0 1024 = D := ⟨_, rfl⟩
  rw [hC] at h2
  have hcs : C.size = 9 := by rw [← hC]; rfl
  have hco : C.all (·.oneCell') = true := by rw [← hC]; exact paC_one _ _ _ _ _
  have HC := Lib.hid hC
  have hsz := pa_size
  rw [← hcs] at hsz
  have hzc : Z.size = C.size := by omega
  clear hC hZ hcs hzs
  go_enter Tryz.func10, Tryz.ntmps10
  go_wp2_with (first
    | (refine wpList_build_atT rfl 37 _ rfl C (by simp only [List.map_toArray]; exact h2) ?_)
    | (refine wpList_store_row rfl _ _ _ rfl w.heap.size C rfl rfl 37 _ (heap_alloc_new w _) hsz hzc hco ?_
       rw [World.setRow_alloc_new]))
  refine bodyPost_ret (v := .agg C) (results_cell_row rfl _ _ w.heap.size 37 C (0, 0) _ rfl (Rw.new w _ _) Tryz.underlying37 rfl hsz) rfl ⟨_, rfl, ⟨none, 0, by rw [← HC.out]; rfl, pa_fit_new, by decide, ⟨[], rfl, LvR.nil_ _ _, fun j x o hx => by simp at hx⟩⟩, (Below.refl _ _).alloc (Nat.le_refl _) _⟩
set_option maxHeartbeats 1000000 in
set_option maxRecDepth 100000 in
theorem rpaat_any (R : Nat → Prop) (v : Value) (m : Pa.M) (n : Int) (w : World) (h : PaIs w R v m) (hl : m.l.length < 9223372036854775807) :
  Calls Tryz.prog 62 #[v, .int .i64 n] w (fun e w' => e = .returned (.int .i64 (Pa.atI m.l n)) ∧ Below w.heap.size w w') := by
 obtain ⟨A, c, rfl, hf, hs, hp⟩ := h
 obtain ⟨D, hD⟩ : ∃ D, paC m.root A m.l.length c m.size = D := ⟨_, rfl⟩
 obtain ⟨W, hW⟩ : ∃ W, w.alloc (.cells D 37) = W := ⟨_, rfl⟩
 have hat : PaAt W w.heap.size m.root A m.l.length c m.size := ⟨by rw [← hW, hD]; exact Rw.new w _ _⟩
 have hb : Below w.heap.size w W := by rw [← hW]; exact (Below.refl _ _).alloc (Nat.le_refl _) _
 have HB := Lib.hid hb
 have HP := Lib.hid (hp.below_ hb)
 have c7 := hat.list
 have HL := Lib.hid hl
 rw [hD]
 clear hat hb hp hD hf hs hl
 go_enter Tryz.func62, Tryz.ntmps62
 go_wp2
 go_loopw [5] (fun i wr => ∃ k : Nat, k ≤ m.l.length ∧ i = .int .i64 k ∧ Hid (wr = W) ∧ Hid (∀ y ∈ m.l.take k, (y.n : Int) ≠ n)) (fun i _ => m.l.length - (intOf i).toNat)
 case atStart => exact ⟨0, by omega, rfl, rfl, by intro y hy; simp at hy⟩
 case round =>
  obtain ⟨k, hk, rfl, HW, HT⟩ := hrel
  obtain rfl := HW.out
  by_cases hlt : k < m.l.length
  ·obtain ⟨b, off, x, o, rfl, hbl, hRb, hxo, hq, ho, hm⟩ := HP.out.at_ hlt
   have e0 := hm 0 _ rfl
   have hll := HL.out
   have HO := Lib.hid ho
   have HQ := Lib.hid hq
   change wr.cell? ⟨b, off + k * 4, none⟩ = _ at e0
   clear hm ho hq
   by_cases hn : (x.n : Int) = n
   ·have HE : Hid (Pa.atI m.l n = (k : Nat)) := by
     unfold Hid Pa.atI
     rw [Pa.idx_at HT.out HQ.out (by rw [HO.out.1]; exact hn)]
    go_wp2
    go_ret
    exact ⟨by rw [HE.out]; rfl, HB.out⟩
   ·go_wp2
    go_roundw
    case rel =>
     refine ⟨k + 1, by omega, by go_num, trivial, ?_⟩
     unfold Hid
     intro y hy
     rw [List.take_add_one, HQ.out] at hy
     rcases List.mem_append.1 hy with h | h
     ·exact HT.out y h
     ·have e : y = o := by simpa using h
      rw [e, HO.out.1]; exact hn
    case measure => simp [intOf]; omega
  ·have h0 : k = m.l.length := by omega
   subst h0
   have HE : Hid (Pa.atI m.l n = -1) := by
    unfold Hid Pa.atI
    rw [Pa.idx_none (by have := HT.out; rwa [List.take_length] at this)]
   go_wp2
   go_ret
   exact ⟨by rw [HE.out]; rfl, HB.out⟩
end Go.Proofs.YtiafeniflkikeaaGreat
namespace Go.Proofs.YtiafeniflkikeaaGreat
open Go.RowKit
set_option linter.unusedVariables false
theorem pg_zero : (Tryz.prog.info? 99).map (fun i => (i.zero, i.size)) = some (some (.agg #[.int .i64 0, .int .i64 0, .int .u8 0, .slice none 0 0]), 4) := by kernel_rfl
theorem Pa.backL_le (l : List Pa.Page) : (Pa.backL l).length ≤ l.length := by
 unfold Pa.backL; rw [List.length_map]; exact List.length_filter_le _ _
theorem pgs_ret {w wr w' : World} {R R' F : Nat → Prop} {us : List RawP} {l : List Pa.Page} {A2 : Option Addr} {c2 base : Nat} (HO : OwnL gK wr base (.slice A2 us.length c2) us) (hU : PgsO wr R' us l) (hT : Turned F wr w')
  (hFo : ∀ k, F k → k < base) (hFR : ∀ k, F k → ¬ R' k) (hRR : ∀ k, R' k → RX R w w' k) (hb : w.heap.size ≤ base) : Pgs w' (RX R w w') (.slice A2 l.length c2) l := by
 have hl2 : LvR gK wr (RX R w w') (.slice A2 us.length c2) us := HO.lvr_ (fun k hk hlt => .inr ⟨Nat.le_trans hb hk, Nat.lt_of_lt_of_le hlt hT.size⟩)
 rw [← hU.1]
 refine ⟨us, hU.1, ⟨(hl2.1.turnedB_ hT (fun hp k hk hf => ?_)).mono_ hT.size, hl2.2⟩, fun j x o hx ho => ((hU.2 j x o hx ho).turned_ hT (fun k hk hf => hFR k hf hk)).more_ hRR⟩
 have h1 := (HO.lt_ k hk).1
 have := hFo k hf
 omega
set_option maxHeartbeats 1500000 in
set_option maxRecDepth 100000 in
theorem rpaback_any (R : Nat → Prop) (v : Value) (m : Pa.M) (w : World) (h : PaIs w R v m) (hR : ∀ k, R k → k < w.heap.size) (hl : m.l.length ≤ 1000000) :
    Calls Tryz.prog 47 #[v] w (IsPa R (Pa.back m) w) := by
  have hz := (zero_of_info pa_zero).1
  obtain ⟨A, c, rfl, hf, hs, hp⟩ := h
  have hsz := pa_size
  obtain ⟨Z, hZ⟩ : ∃ Z, none9 = Z := ⟨_, rfl⟩
  have hzs : Z.size = 9 := by rw [← hZ]; rfl
  rw [hZ] at hz
  obtain ⟨D, hD⟩ : ∃ D, paC m.root A m.l.length c m.size = D := ⟨_, rfl⟩
  obtain ⟨W, hW⟩ : ∃ W, (w.alloc (.cells D 37)).alloc (.cells Z 37) = W := ⟨_, rfl⟩
  have HAT : Hid (Rw W w.heap.size 37 (paC m.root A m.l.length c m.size)) := by unfold Hid; rw [← hW, hD]; exact (Rw.new w _ _).old _
  have HZT : Hid (Rw W (w.heap.size + 1) 37 Z) := by unfold Hid; rw [← hW]; exact Rw.at_ (by simp) _ _
  have hb : Below w.heap.size w W := by rw [← hW]; exact ((Below.refl _ _).alloc (Nat.le_refl _) _).alloc (by simp) _
  have hWs : W.heap.size = w.heap.size + 2 := by rw [← hW]; simp
  have HWS := Lib.hid hWs
  have HB := Lib.hid hb
  have HP := Lib.hid (hp.below_ hb)
  have HL := Lib.hid hl
  have HF : Hid (Rt.Fit m.root ∧ m.size < 1099511627776) := ⟨hf, hs⟩
  have HZS := Lib.hid hzs
  have hz4 := (zero_of_info pg_zero).1
  rw [hD]
  have HDD := Lib.hid hD
  have HRL := Lib.hid hR
  clear hR hb hp hD hf hs hl hWs hZ hzs hsz
  go_enter Tryz.func47, Tryz.ntmps47
  go_wp2
  go_loopw [3, 4] (fun v i wr => ∃ (k : Nat) (A2 : Option Addr) (c2 : Nat) (us : List RawP), k ≤ m.l.length ∧ i = .int .i64 k ∧ v = .slice A2 us.length c2 ∧ Hid (PgsO wr R us (Pa.backL (m.l.take k))) ∧ Hid (OwnL gK wr W.heap.size (.slice A2 us.length c2) us) ∧ Hid (Below W.heap.size W wr)) (fun _ i _ => m.l.length - (intOf i).toNat)
  case atStart => exact ⟨0, none, 0, [], by omega, rfl, rfl, PgsO.nil_ _ _, OwnL.nil_ _ _ _, Below.refl _ _⟩
  case round =>
    obtain ⟨k, A2, c2, us, hk, rfl, rfl, HU, HO, HBR⟩ := hrel
    have HSZ : Hid (W.heap.size ≤ wr.heap.size) := HBR.out.size
    have hg0 : w.heap.size < W.heap.size := by have := HWS.out; omega
    have c7 : wr.cell? ⟨w.heap.size, 7, none⟩ = some (.slice A m.l.length c) := (HAT.out.below HBR.out hg0).cell 7
    have hPr := HP.out.below_ HBR.out
    by_cases hlt : k < m.l.length
    · obtain ⟨b, off, x, q, hA, hbl, hRb, hxo, hq, ho, hm⟩ := hPr.at_ hlt
      subst hA
      have HUL : Hid (us.length ≤ 1000000) := by
        have h1 := HU.out.1
        have h2 := Pa.backL_le (m.l.take k)
        rw [List.length_take] at h2
        have := HL.out
        unfold Hid; omega
      have HBX : Hid (Pa.backL (m.l.take (k + 1)) = if q.state = 2 then Pa.backL (m.l.take k) else Pa.backL (m.l.take k) ++ [Pa.used q]) := by
        unfold Hid; rw [take_snoc hq, Pa.backL_snoc]
      have HOQ := Lib.hid ho
      have HXO := Lib.hid hxo
      obtain ⟨xn, xs, xk, xA, xm, xc⟩ := x
      have hmm : wr.rangeAt b (off + k * 4) [.int .i64 (xn : Nat), .int .i64 (xs : Nat), .int .u8 (xk : Nat), .slice xA xm xc] := hm
      have HMM := Lib.hid hmm
      obtain ⟨X, hX⟩ : ∃ X, wr.alloc (.cells #[.int .i64 (xn : Nat), .int .i64 (xs : Nat), .int .u8 (xk : Nat), .slice xA xm xc] 99) = X := ⟨_, rfl⟩
      have hXr : Rw X wr.heap.size 99 #[.int .i64 (xn : Nat), .int .i64 (xs : Nat), .int .u8 (xk : Nat), .slice xA xm xc] := by rw [← hX]; exact Rw.new _ _ _
      have hXb : Below wr.heap.size wr X := by rw [← hX]; exact (Below.refl _ _).alloc (Nat.le_refl _) _
      have d1 : X.cell? ⟨wr.heap.size, 1, none⟩ = some (.int .i64 (xs : Nat)) := hXr.cell 1
      have hXs : X.heap.size = wr.heap.size + 1 := by rw [← hX]; simp
      have HXS := Lib.hid hXs
      have HXB := Lib.hid hXb
      have HXR := Lib.hid hXr
      have hlc : m.l.length ≤ 9223372036854775807 := by have := HL.out; omega
      have hst : q.state = xs := ho.2.1
      have HST := Lib.hid hst
      clear hm ho hq hPr hst hbl hRb hxo hmm hXr hXb hXs
      by_cases h2 : xs = 2
      · have HN : Hid (Pa.backL (m.l.take (k + 1)) = Pa.backL (m.l.take k)) := by unfold Hid; rw [HBX.out, if_pos (by rw [HST.out]; exact h2)]
        have b2 : ((xs : Int) != 2) = false := by rw [h2]; rfl
        clear h2
        go_wp2_with (first
          | ((with_reducible refine gate_load 99 ?_); refine wpList_load_mid rfl 99 _ rfl b (off + k * 4) rfl _ _ HMM.out Tryz.underlying99 rfl pg_size ?_)
          | ((with_reducible refine gate_store 99 ?_); refine wpList_store_row rfl 99 _ _ rfl wr.heap.size #[.int .i64 (xn : Nat), .int .i64 (xs : Nat), .int .u8 (xk : Nat), .slice xA xm xc] rfl rfl 99 _ (heap_alloc_new wr _) pg_size rfl rfl ?_
             rw [World.setRow_alloc_new, hX]))
        go_roundw
        case rel => exact ⟨k + 1, A2, c2, us, by omega, by go_num, rfl, by rw [HN.out]; exact HU.out.below_ HXB.out, HO.out.below_ HXB.out (Nat.le_refl _), HBR.out.trans (HXB.out.mono HSZ.out)⟩
        case measure => simp [intOf]; omega
      · have HN : Hid (Pa.backL (m.l.take (k + 1)) = Pa.backL (m.l.take k) ++ [Pa.used q]) := by unfold Hid; rw [HBX.out, if_neg (by rw [HST.out]; exact h2)]
        have b2 : ((xs : Int) != 2) = true := by rw [bne_iff_ne]; omega
        have f1 : X.frozen? ⟨wr.heap.size, 1, none⟩ = false := HXR.out.frozen 1
        obtain ⟨X2, hX2⟩ : ∃ X2, X.setCell ⟨wr.heap.size, 1, none⟩ (.int .i64 1) = X2 := ⟨_, rfl⟩
        have HX2R : Hid (Rw X2 wr.heap.size 99 #[.int .i64 (xn : Nat), .int .i64 1, .int .u8 (xk : Nat), .slice xA xm xc]) := by
          unfold Hid; rw [← hX2]; exact HXR.out.set 1 _
        have hX2b : Below wr.heap.size wr X2 := by rw [← hX2]; exact HXB.out.setCell (p := ⟨wr.heap.size, 1, none⟩) (by show wr.heap.size ≤ wr.heap.size; omega) _
        have HX2B := Lib.hid hX2b
        have HX2S : Hid (W.heap.size ≤ X2.heap.size) := Nat.le_trans HSZ.out hX2b.size
        have HO2 := Lib.hid (HO.out.below_ hX2b (Nat.le_refl _))
        have HXN : Hid (RawPOk ⟨xn, 1, xk, xA, xm, xc⟩) := ⟨HXO.out.1, by show 1 < 256; omega, HXO.out.2.2⟩
        have HUL2 : Hid ((us.length + 1) * 48 ≤ 140737488355328 ∧ us.length + 1 ≤ maxLen) := by have := HUL.out; unfold Hid maxLen; omega
        clear h2 hX2b
        go_wp2_with (first
          | ((with_reducible refine gate_load 99 ?_); refine wpList_load_mid rfl 99 _ rfl b (off + k * 4) rfl _ _ HMM.out Tryz.underlying99 rfl pg_size ?_)
          | ((with_reducible refine gate_store 99 ?_); refine wpList_store_row rfl 99 _ _ rfl wr.heap.size #[.int .i64 (xn : Nat), .int .i64 (xs : Nat), .int .u8 (xk : Nat), .slice xA xm xc] rfl rfl 99 _ (heap_alloc_new wr _) pg_size rfl rfl ?_
             rw [World.setRow_alloc_new, hX])
          | ((with_reducible refine gate_load 99 ?_); refine wpList_load_row rfl 99 _ rfl wr.heap.size rfl 99 #[.int .i64 (xn : Nat), .int .i64 1, .int .u8 (xk : Nat), .slice xA xm xc] (0, 0) _ HX2R.out Tryz.underlying99 rfl pg_size ?_)
          | (at_builtin; go_must (refine wpList_push_l _ gK rfl _ _ rfl W.heap.size _ rfl us HO2.out rfl ⟨xn, 1, xk, xA, xm, xc⟩ HXN.out _ rfl _ rfl HUL2.out.1 HUL2.out.2 HX2S.out ?_; intro A6 c6 w6 hA6 hG6)))
        go_roundw
        case rel =>
          have hl1 : (us ++ [(⟨xn, 1, xk, xA, xm, xc⟩ : RawP)]).length = us.length + 1 := by simp
          have hb6 : Below W.heap.size W w6 := (HBR.out.trans (HX2B.out.mono HSZ.out)).grown hG6 HX2S.out (fun k hk => (HO2.out.lt_ k hk).1)
          have hu6 : PgsO w6 R (us ++ [(⟨xn, 1, xk, xA, xm, xc⟩ : RawP)]) (Pa.backL (m.l.take (k + 1))) := by
            rw [HN.out]
            have ho1 := HU.out.below_ HX2B.out
            have hp1 : PgOf X2 R ⟨xn, 1, xk, xA, xm, xc⟩ (Pa.used q) := ⟨HOQ.out.1, rfl, HOQ.out.2.2.1, (HOQ.out.2.2.2.below_ HX2B.out)⟩
            exact (ho1.snoc hp1).turned_ (Turned.of_grown hG6) (fun k hk e => by
              have h1 := (HO2.out.lt_ k e).1
              have h2 := HRL.out k hk
              have := HB.out.size
              omega)
          exact ⟨k + 1, A6, c6, _, by omega, by go_num, by rw [hl1], hu6, by rw [hl1]; exact hA6, hb6⟩
        case measure => simp [intOf]; omega
    · have h0 : k = m.l.length := by omega
      subst h0
      have hU : PgsO wr R us (Pa.backL m.l) := by have := HU.out; rwa [List.take_length] at this
      have HU2 := Lib.hid hU
      have hul := hU.1
      have hD0 : Rw wr w.heap.size 37 (paC m.root A m.l.length c m.size) := HAT.out.below HBR.out hg0
      have hf7 : wr.frozen? ⟨w.heap.size, 7, none⟩ = false := hD0.frozen 7
      obtain ⟨X, hX⟩ : ∃ X, wr.setCell ⟨w.heap.size, 7, none⟩ (.slice A2 us.length c2) = X := ⟨_, rfl⟩
      have hXr : Rw X w.heap.size 37 (paC m.root A2 us.length c2 m.size) := by rw [← hX]; exact hD0.set 7 _
      have hXz : Rw X (w.heap.size + 1) 37 Z := by rw [← hX]; exact (HZT.out.below HBR.out (by have := HWS.out; omega)).setOther (by omega) _ _
      have HXR := Lib.hid hXr
      have HXZ := Lib.hid hXz
      have hXT : Turned (fun k => k = w.heap.size) wr X := by rw [← hX]; exact (Turned.refl (fun k => k = w.heap.size) wr).setCell (p := ⟨w.heap.size, 7, none⟩) (fun _ => rfl) _
      have HXT := Lib.hid hXT
      have HXBW : Hid (Below w.heap.size w X) := by unfold Hid; rw [← hX]; exact (HB.out.trans (HBR.out.mono HB.out.size)).setCell (p := ⟨w.heap.size, 7, none⟩) (by show w.heap.size ≤ w.heap.size; omega) _
      have hsz := pa_size
      rw [← paC_size m.root A2 us.length c2 m.size] at hsz
      have hco := paC_one m.root A2 us.length c2 m.size
      have hzc : Z.size = (paC m.root A2 us.length c2 m.size).size := by rw [HZS.out, paC_size]
      obtain ⟨C, hC⟩ : ∃ C, paC m.root A2 us.length c2 m.size = C := ⟨_, rfl⟩
      rw [hC] at hsz hco hzc
      have HXC : Hid (Rw X w.heap.size 37 C) := by unfold Hid; rw [← hC]; exact hXr
      have HCC := Lib.hid hC
      clear hPr hU hD0 hXr hXz hXT hC HU hul
      go_wp2_with (first
        | ((with_reducible refine gate_load 37 ?_); refine wpList_load_row rfl 37 _ rfl w.heap.size rfl 37 C (0, 0) _ HXC.out Tryz.underlying37 rfl hsz ?_)
        | ((with_reducible refine gate_store 37 ?_); refine wpList_store_row rfl 37 _ _ rfl (w.heap.size + 1) C rfl rfl 37 _ HXZ.out hsz hzc hco ?_))
      have hT2 : Turned (fun k => k = w.heap.size ∨ k = w.heap.size + 1) wr (X.setRow (w.heap.size + 1) C) := (HXT.out.mono (G := fun k => k = w.heap.size ∨ k = w.heap.size + 1) (fun k _ h => Or.inl h)).setRow (fun _ => Or.inr rfl) _
      refine bodyPost_ret (v := .agg C) (results_cell_row rfl _ _ (w.heap.size + 1) 37 C (0, 0) _ rfl (Rw.row HXZ.out C) Tryz.underlying37 rfl hsz) rfl ⟨_, rfl, ⟨A2, c2, ?_, HF.out.1, HF.out.2, ?_⟩, below_setRow HXBW.out (by omega) _⟩
      · rw [← HCC.out, HU2.out.1]; rfl
      · exact pgs_ret HO.out HU2.out hT2 (fun k hk => by have := HWS.out; omega) (fun k hk hr => by have := HRL.out k hr; omega) (fun k hk => .inl hk) HB.out.size
end Go.Proofs.YtiafeniflkikeaaGreat
