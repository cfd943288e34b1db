/- Parts of the proof. -/
import Derived.Test.YtiafeniflkikeaaGreatPk15
import Derived.Test.YtiafeniflkikeaaGreatPk42
import Derived.Test.YtiafeniflkikeaaGreatPk44
import Derived.Test.YtiafeniflkikeaaGreatPk39
import Derived.Test.YtiafeniflkikeaaGreatPk11
import Derived.Test.YtiafeniflkikeaaGreatPk13
import Derived.Test.YtiafeniflkikeaaGreatPk06
import Derived.Test.YtiafeniflkikeaaGreatPk43
import Derived.Test.YtiafeniflkikeaaGreatPk10
import Derived.Test.YtiafeniflkikeaaGreatPk14
import Derived.Deep.RegionHeld3
import Derived.Test.YtiafeniflkikeaaGreatPk12
import Derived.Test.YtiafeniflkikeaaGreatPk02
namespace Go.Proofs.YtiafeniflkikeaaGreat
open Go.RowKit
set_option linter.unusedVariables false
namespace Pp
def bareU (x : Pa.Page) : Pa.Page := ⟨x.n, 1, 0, []⟩
theorem ins_end {l : List Pa.Page} {n : Nat} (h : ∀ x ∈ l, x.n < n) : ins l n = l ++ [⟨n, 1, 0, []⟩] := by
 induction l with
 | nil => rfl
 | cons x l ih =>
  have hx := h x (by simp)
  have ih := ih (fun y hy => h y (by simp [hy]))
  unfold ins at ih ⊢
  rw [List.takeWhile_cons_of_pos (by simpa using hx), List.dropWhile_cons_of_pos (by simpa using hx), List.cons_append, ih, List.cons_append]
theorem use_next {l : List Pa.Page} (hr : Pa.Rising l) {k : Nat} {x : Pa.Page} (hx : l[k]? = some x) {s : S} (hs : s.l = (l.take k).map bareU) (h2 : 2 ≤ x.n) (hp : (x.n : Int) < s.root.pages) :
  useE s x.n = ({ s with l := (l.take (k + 1)).map bareU }, 0) := by
 have hlt : ∀ y ∈ s.l, y.n < x.n := by
  intro y hy
  rw [hs] at hy
  obtain ⟨z, hz, rfl⟩ := List.mem_map.1 hy
  obtain ⟨j, hj⟩ := List.getElem?_of_mem hz
  rw [List.getElem?_take] at hj
  split at hj
  ·have hjl := (List.getElem?_eq_some_iff.1 hj).1
   have hkl := (List.getElem?_eq_some_iff.1 hx).1
   have h3 := (List.pairwise_iff_getElem.1 hr) j k hjl hkl (by assumption)
   rw [List.getElem?_eq_getElem hjl] at hj
   rw [List.getElem?_eq_getElem hkl] at hx
   rw [Option.some.inj hj, Option.some.inj hx] at h3
   exact h3
  ·cases hj
 have hnone : Pa.find s.l x.n = none := by
  unfold Pa.find
  rw [Pa.idx_none (fun y hy => by have := hlt y hy; omega)]
  rfl
 unfold useE
 rw [if_neg (by omega), hnone]
 simp only [Int.toNat_natCast]
 rw [ins_end hlt, hs, take_snoc hx, List.map_append]
 rfl
theorem bare_back (l : List Pa.Page) : ((Pa.backL l).map bareU).map bare = (Pa.backL l).map bare := by
 rw [List.map_map]
 refine List.map_congr_left fun x hx => ?_
 unfold Pa.backL at hx
 obtain ⟨y, hy, rfl⟩ := List.mem_map.1 hx
 simp [Pa.used, bareU, bare]
end Pp
theorem results_pam {fn : Func} {p u1 u2 : Tmp} (h : fn.results = #[.tmp u1, .cell p 37, .tmp u2]) (tmps : Array Value) (w : World) (g : Nat) (c : Array Value) (x y : Value) (t : TypeId)
  (hp : tmps.getD p undef = .pointer (some ⟨g, 0, none⟩)) (hx : tmps.getD u1 undef = x) (hy : tmps.getD u2 undef = y) (hc : (Tryz.prog.info? 37).map (·.size) = some c.size) (hg : w.heap[g]? = some (.cells c t (0, 0))) :
  (results fn tmps).run Tryz.prog w = .ok (.tuple #[x, .agg c, y]) w := by
 have hp' : tmps[p]?.getD undef = .pointer (some ⟨g, 0, none⟩) := by simpa using hp
 have hx' : tmps[u1]?.getD undef = x := by simpa using hx
 have hy' : tmps[u2]?.getD undef = y := by simpa using hy
 simp [results, h, hp', hx', hy', asAddr, run_loadVar_row w g t _ _ (0, 0) _ hg Tryz.underlying37 rfl hc]
def IsAgain (R : Nat → Prop) (m : Pa.M) (t : Sf.St) (s0 : Pp.S) (bf : Nat) (w : World) (e : Ending) (w' : World) : Prop :=
 ∃ (v' : Value) (b : Nat) (f' : Fp) (s' : Pp.S) (n : Nat), e = .returned (.tuple #[.pointer (some ⟨b, 0, none⟩), v', .bool true]) ∧ PaIs w' (fun q => R q ∨ (w.heap.size ≤ q ∧ q < n)) v' (Pa.back m) ∧
   PPager w' f' s' (Sf.now (Sf.fileAt t (Sf.get t ⟨#[105]⟩).1)) b bf ∧ Pp.Is s' (Pa.back m) ∧ s'.name = s0.name ∧ (s'.cache = s0.cache ∧ s'.turns = s0.turns) ∧ f'.From n ∧ w.heap.size ≤ n ∧ n ≤ w'.heap.size ∧ Below w.heap.size w w'
structure Pa.Good (s0 : Pp.S) (m : Pa.M) : Prop where
 root : s0.root = m.root
 rise : Pa.Rising (Pa.backL m.l)
 page : ∀ x ∈ Pa.backL m.l, 2 ≤ x.n ∧ (x.n : Int) < m.root.pages
def IsAgainG (R : Nat → Prop) (m : Pa.M) (t : Sf.St) (s0 : Pp.S) (bf : Nat) (w : World) (e : Ending) (w' : World) : Prop :=
 ∃ (v' : Value) (n : Nat), PaIs w' (fun q => R q ∨ (w.heap.size ≤ q ∧ q < n)) v' (Pa.back m) ∧ w.heap.size ≤ n ∧ n ≤ w'.heap.size ∧ Below w.heap.size w w' ∧
  ((¬ Pa.Good s0 m ∧ e = .returned (.tuple #[.pointer none, v', .bool false])) ∨
   ∃ (b : Nat) (f' : Fp) (s' : Pp.S), e = .returned (.tuple #[.pointer (some ⟨b, 0, none⟩), v', .bool true]) ∧ PPager w' f' s' (Sf.now (Sf.fileAt t (Sf.get t ⟨#[105]⟩).1)) b bf ∧ s'.root = s0.root ∧ s'.name = s0.name ∧ (s'.cache = s0.cache ∧ s'.turns = s0.turns) ∧ (Pa.Good s0 m → Pp.Is s' (Pa.back m)) ∧ f'.From n)
theorem Pp.useE_same (s : Pp.S) (n : Int) : (Pp.useE s n).1.root = s.root ∧ (Pp.useE s n).1.name = s.name ∧ ((Pp.useE s n).1.cache = s.cache ∧ (Pp.useE s n).1.turns = s.turns) := by
 unfold Pp.useE
 split
 ·exact ⟨rfl, rfl, rfl, rfl⟩
 ·split <;> exact ⟨rfl, rfl, rfl, rfl⟩
set_option maxHeartbeats 2000000 in
set_option maxRecDepth 100000 in
theorem pagain_gen {w : World} {fd : Fp} {t : Sf.St} {bf : Nat} (hD : PDisk w fd t bf) (R : Nat → Prop) (v : Value) (m : Pa.M) (cache : Int) (h : PaIs w R v m) (hR : ∀ k, R k → k < w.heap.size) (hl : m.l.length ≤ 1000000) (hcm : I64 cache)
  (s0 : Pp.S) (ho : Pp.openE t ⟨#[105]⟩ cache = (some s0, 0)) (hs0 : s0.l = []) :
  Calls Tryz.prog 12 #[.pointer (some ⟨bf, 0, none⟩), v, .int .i64 cache] w (IsAgainG R m t s0 bf w) := by
 have hz := (zero_of_info pa_zero).1
 have HV := Lib.hid h
 have hv9 : ∃ D : Array Value, v = .agg D ∧ D.size = 9 := by obtain ⟨A, c, e, _⟩ := h; exact ⟨_, e, rfl⟩
 obtain ⟨D, rfl, hDs⟩ := hv9
 obtain ⟨Z, hZ⟩ : ∃ Z, none9 = Z := ⟨_, rfl⟩
 have hzs : Z.size = 9 := by rw [← hZ]; rfl
 rw [hZ] at hz
 obtain ⟨W, hW⟩ : ∃ W, (w.alloc (.cells D 37)).alloc (.cells Z 37) = W := ⟨_, rfl⟩
 have HDT : Hid (Rw W w.heap.size 37 D) := by unfold Hid; rw [← hW]; exact (Rw.new w _ _).old _
 have HZT : Hid (Rw W (w.heap.size + 1) 37 Z) := by unfold Hid; rw [← hW]; exact Rw.at_ (by simp) _ _
 have hb : Below w.heap.size w W := by rw [← hW]; exact ((Below.refl _ _).alloc (Nat.le_refl _) _).alloc (by simp) _
 have hWs : W.heap.size = w.heap.size + 2 := by rw [← hW]; simp
 have HWS := Lib.hid hWs
 have HB := Lib.hid hb
 have HDw := Lib.hid hD
 have HD := Lib.hid (pdisk_law.below hD hb)
 have HL := Lib.hid hl
 have HRL := Lib.hid hR
 have hsz := pa_size
 have HSD : Hid ((Tryz.prog.info? 37).map (·.size) = some D.size) := by unfold Hid; rw [hDs]; exact hsz
 have HDS := Lib.hid hDs
 have HZS := Lib.hid hzs
 have HO := Lib.hid ho
 have HS0 := Lib.hid hs0
 have HCB := Lib.hid (rpaback_any R (.agg D) m W (HV.out.below_ hb) (fun k hk => Nat.lt_of_lt_of_le (hR k hk) hb.size) hl)
 clear hb hl hR hDs hzs ho hs0 hZ hsz h hWs
 go_enter Tryz.func12, Tryz.ntmps12
 go_wp2_with ((with_reducible refine gate_load 37 ?_); refine wpList_load_row rfl 37 _ rfl w.heap.size rfl 37 D (0, 0) _ HDT.out Tryz.underlying37 rfl HSD.out ?_)
 refine HCB.out.mono ?_
 rintro e w1 ⟨v1, rfl, hv1, b1⟩
 obtain ⟨A, c, rfl, hf, hs, hp⟩ := hv1
 have hsz := pa_size
 rw [← paC_size (Pa.back m).root A (Pa.back m).l.length c (Pa.back m).size] at hsz
 have hco := paC_one (Pa.back m).root A (Pa.back m).l.length c (Pa.back m).size
 have hdc : D.size = (paC (Pa.back m).root A (Pa.back m).l.length c (Pa.back m).size).size := by rw [HDS.out, paC_size]
 obtain ⟨C, hC⟩ : ∃ C, paC (Pa.back m).root A (Pa.back m).l.length c (Pa.back m).size = C := ⟨_, rfl⟩
 rw [hC] at hsz hco hdc ⊢
 have HD1 : Hid (Rw w1 w.heap.size 37 D) := HDT.out.below b1 (by have := HWS.out; omega)
 go_wp2_with ((with_reducible refine gate_store 37 ?_); refine wpList_store_row rfl 37 _ _ rfl w.heap.size C rfl rfl 37 D HD1.out hsz hdc hco ?_)
 generalize hXe : w1.setRow w.heap.size C = X
 have hbX : Below w.heap.size w X := by rw [← hXe]; exact below_setRow (HB.out.trans (b1.mono HB.out.size)) (Nat.le_refl _) _
 have hCX : Rw X w.heap.size 37 C := by rw [← hXe]; exact Rw.row HD1.out C
 have hZX : Rw X (w.heap.size + 1) 37 Z := by rw [← hXe]; exact (HZT.out.below b1 (by have := HWS.out; omega)).rowOther (by omega) _
 have hXs : X.heap.size = w1.heap.size := by rw [← hXe]; simp
 have hTX : Turned (fun q => q = w.heap.size) w1 X := by rw [← hXe]; exact (Turned.refl (fun q => q = w.heap.size) w1).setRow (fun _ => rfl) _
 have hpX : Pgs X (RX R W w1) (.slice A (Pa.back m).l.length c) (Pa.back m).l := hp.turned_ hTX (fun q hq hf => by
  rcases hq with hq | hq
  ·have := HRL.out q hq; omega
  ·have := HWS.out; omega)
 have HXS := Lib.hid hXs
 have HBX := Lib.hid hbX
 have HCX := Lib.hid hCX
 have HZX := Lib.hid hZX
 have HPX := Lib.hid hpX
 have HSZC := Lib.hid hsz
 have HCO := Lib.hid hco
 have HCC := Lib.hid hC
 have HFS : Hid (Rt.Fit (Pa.back m).root ∧ (Pa.back m).size < 1099511627776) := ⟨hf, hs⟩
 have HDX := Lib.hid (pdisk_law.below HDw.out hbX)
 have HOP := Lib.hid (ppopen_some ⟨#[105]⟩ cache HDX.out (by decide +kernel) hcm s0 HO.out)
 obtain ⟨F, hF⟩ : ∃ F, Sf.now (Sf.fileAt t (Sf.get t ⟨#[105]⟩).1) = F := ⟨_, rfl⟩
 rw [hF] at HOP
 have HBL : Hid ((Pa.back m).l = Pa.backL m.l) := rfl
 obtain ⟨l', hl'⟩ : ∃ l, (Pa.back m).l = l := ⟨_, rfl⟩
 rw [hl'] at HPX HBL
 have HLL : Hid (l'.length ≤ 1000000) := by unfold Hid; rw [HBL.out]; exact Nat.le_trans (Pa.backL_le _) HL.out
 have HCL : Hid (C[7]? = some (.slice A l'.length c)) := by unfold Hid; rw [← hC, ← hl']; rfl
 have HL' := Lib.hid hl'
 clear hbX hCX hZX hXs hTX hpX hp hf hs hsz hco hdc hC b1 HD1 HD HCB HDT HZT hXe hW hl'
 refine HOP.out.mono ?_
 rintro e w3 ⟨b3, b, f3, rfl, hP3, hfr3⟩
 have HP3 := Lib.hid hP3
 have HF3 := Lib.hid hfr3
 have HB3 := Lib.hid b3
 clear hP3 hfr3 b3 HOP
 go_wp2
 go_loopw [11] (fun i wr => ∃ (k : Nat) (fk : Fp) (sk : Pp.S), k ≤ l'.length ∧ i = .int .i64 k ∧ Hid (PPager wr fk sk F b bf) ∧ Hid (fk.From X.heap.size) ∧ Hid (sk.root = s0.root ∧ sk.name = s0.name ∧ (sk.cache = s0.cache ∧ sk.turns = s0.turns) ∧ (Pa.Good s0 m → sk = { s0 with l := (l'.take k).map Pp.bareU })) ∧ Hid (Below X.heap.size X wr)) (fun i _ => l'.length - (intOf i).toNat)
 case atStart => exact ⟨0, f3, s0, by omega, rfl, HP3.out, HF3.out, ⟨rfl, rfl, ⟨rfl, rfl⟩, fun _ => by have := HS0.out; cases s0; simp_all⟩, HB3.out⟩
 case round =>
  obtain ⟨k, fk, sk, hk, rfl, HPk, HFk, HSk, HBk⟩ := hrel
  have hw0 : w.heap.size < X.heap.size := HCX.out.lt
  have hCk : Rw wr w.heap.size 37 C := HCX.out.below HBk.out hw0
  have c7 : wr.cell? ⟨w.heap.size, 7, none⟩ = some (.slice A l'.length c) := (hCk.cell 7).trans HCL.out
  have hPk := HPX.out.below_ HBk.out
  have hlc : l'.length ≤ 9223372036854775807 := by have := HLL.out; omega
  by_cases hlt : k < l'.length
  ·obtain ⟨pb, off, x, q, hA, hbl, hRb, hxo, hq, ho, hm⟩ := hPk.at_ hlt
   subst hA
   have e0 : wr.cell? ⟨pb, off + k * 4, none⟩ = some (.int .i64 (x.n : Nat)) := hm 0 _ rfl
   have huse : Pa.Good s0 m → Pp.useE sk x.n = ({ s0 with l := (l'.take (k + 1)).map Pp.bareU }, 0) := fun g => by
    have e := HSk.out.2.2.2 g
    have hqp := g.page q (by rw [← HBL.out]; exact List.mem_of_getElem? hq)
    have h := Pp.use_next (l := l') (by rw [HBL.out]; exact g.rise) hq (s := sk) (by rw [e]) hqp.1 (by rw [e]; show _ < s0.root.pages; rw [g.root]; exact hqp.2)
    rw [ho.1] at h
    rw [h, e]
   have hus := Pp.useE_same sk (x.n : Int)
   have HU := Lib.hid (ppuse_any (x.n : Int) HPk.out (by have := hxo.1; unfold I64; omega))
   obtain ⟨⟨sn, en⟩, hen⟩ : ∃ r, Pp.useE sk (x.n : Int) = r := ⟨_, rfl⟩
   rw [hen] at HU hus huse
   simp only at hus
   have HSN : Hid (sn.root = s0.root ∧ sn.name = s0.name ∧ (sn.cache = s0.cache ∧ sn.turns = s0.turns) ∧ (Pa.Good s0 m → sn = { s0 with l := (l'.take (k + 1)).map Pp.bareU })) := ⟨hus.1.trans HSk.out.1, hus.2.1.trans HSk.out.2.1, ⟨hus.2.2.1.trans HSk.out.2.2.1.1, hus.2.2.2.trans HSk.out.2.2.1.2⟩, fun g => congrArg Prod.fst (huse g)⟩
   have HGE : Hid (Pa.Good s0 m → en = 0) := fun g => congrArg Prod.snd (huse g)
   clear hm ho hq hxo hRb hbl huse hus hen
   have hsame : True := trivial
   clear hPk hsame
   go_wp2_with fail
   refine HU.out.mono ?_
   rintro e w4 ⟨rfl, f4, hP4, hN4, hT4⟩
   have hb4 : Below X.heap.size wr w4 := hT4.below HBk.out.size (fun q hq => HFk.out q (.inl hq))
   have HP4 := Lib.hid hP4
   have HF4 := Lib.hid (hN4.from_ HFk.out HBk.out.size)
   have HB4 := Lib.hid (HBk.out.trans hb4)
   have hZ4 : Rw w4 (w.heap.size + 1) 37 Z := HZX.out.below HB4.out (by have := HZX.out.lt; omega)
   have hC4 : Rw w4 w.heap.size 37 C := HCX.out.below HB4.out hw0
   have HP4R := Lib.hid (HPX.out.below_ HB4.out)
   clear hP4 hN4 hT4 hb4 HU hCk
   by_cases hen0 : en = 0
   rotate_left
   ·have q0 : ((en : Int) != 0) = true := by rw [bne_iff_ne]; omega
    have HNG : Hid (¬ Pa.Good s0 m) := fun g => hen0 (HGE.out g)
    have HZK := Lib.hid hZ4
    have HCK := Lib.hid hC4
    have hzc : Z.size = C.size := by rw [HZS.out, ← HCC.out, paC_size]
    have HZCC := Lib.hid hzc
    clear hZ4 hC4 hen0 hzc
    go_wp2
    refine wp_region_m (fun w' => w' = w4.drew) 2 (by kernel_rfl) ?_
    have hS0 : w4.drew = w4.drew := rfl
    refine zM (i := 0) (v := .agg C) rfl (by kernel_rfl) (fun _ _ _ h => h) hS0 (Or.inl ⟨by rfl, fun w' hSw => exec_load_row _ _ rfl w.heap.size rfl 37 C (0, 0) _ w' (by rw [hSw]; exact HCK.out) Tryz.underlying37 rfl HSZC.out⟩) ?_
    try simp only [Act.put, zA, zC, zD, zE, zF]
    refine zM (i := 1) (v := ?_) rfl (by kernel_rfl) (fun _ _ _ h => h) hS0 (Or.inl ⟨by rfl, (by intro w' hSw; go_simp; first | done | with_reducible rfl)⟩) ?_
    try simp only [Act.put, zA, zB, zC, zD, zE, zF]
    refine wpAnyM_next (i := 2) (by kernel_rfl) rfl (fun K hK => ?_)
    rw [if_pos (by rfl)]
    refine wp_store_row 37 (.tmp 7) (.tmp 39) rfl (w.heap.size + 1) C rfl rfl 37 Z HZK.out HSZC.out HZCC.out HCO.out ?_
    refine hK.out _ _ (.inl (Nat.le_refl _)) ?_
    clear hK K
    try simp only [Act.put, zA, zB, zC]
    refine wpAnyM_next (i := 3) (by kernel_rfl) rfl (fun K hK => ?_)
    go_simp
    refine hK.out _ _ (.inl (by omega)) ?_
    clear hK K
    try simp only [Act.put, zA, zB, zC, zD, zE, zF]
    refine wpAnyM_done (by kernel_rfl) ?_ _
    have HT5 : Hid (Turned (fun q => q = w.heap.size + 1) w4 (w4.drew.setRow (w.heap.size + 1) C)) := ((Turned.refl (fun q => q = w.heap.size + 1) w4).drew).setRow (fun _ => rfl) _
    have HR5 : Hid (Rw (w4.drew.setRow (w.heap.size + 1) C) (w.heap.size + 1) 37 C) := Rw.row HZK.out C
    have HB5 : Hid (Below w.heap.size w (w4.drew.setRow (w.heap.size + 1) C)) := below_setRow ((HBX.out.trans (HB4.out.mono HBX.out.size)).drew) (by omega) _
    generalize w4.drew.setRow (w.heap.size + 1) C = w5 at *
    go_wp2
    have hz1 : w.heap.size + 1 < X.heap.size := HZX.out.lt
    refine bodyPost_ret (v := .tuple #[.pointer none, .agg C, .bool false]) (results_pam rfl _ _ (w.heap.size + 1) C _ _ _ rfl rfl rfl HSZC.out HR5.out) rfl ⟨_, X.heap.size, ⟨_, c, by rw [← HCC.out], HFS.out.1, HFS.out.2, ?_⟩, by omega, Nat.le_trans HB4.out.size HT5.out.size, HB5.out, .inl ⟨HNG.out, rfl⟩⟩
    rw [HL'.out]
    refine (HP4R.out.turned_ HT5.out (fun q hq hf => ?_)).more_ (fun q hq => ?_)
    ·rcases hq with hq | hq
     ·have := HRL.out q hq; omega
     ·have := HWS.out; omega
    ·rcases hq with hq | hq
     ·exact .inl hq
     ·have h3 := HXS.out
      have h4 := HWS.out
      exact .inr ⟨by omega, by omega⟩
   subst hen0
   clear hZ4 hC4 HP4R
   go_wp2
   go_roundw
   case rel => exact ⟨k + 1, f4, _, by omega, by go_num, HP4.out, HF4.out, HSN.out, HB4.out⟩
   case measure => simp [intOf]; omega
  ·have h0 : k = l'.length := by omega
   subst h0
   have hZk : Rw wr (w.heap.size + 1) 37 Z := HZX.out.below HBk.out (by have := HZX.out.lt; omega)
   have hzc : Z.size = C.size := by rw [HZS.out, ← HCC.out, paC_size]
   have HZK := Lib.hid hZk
   have HCK := Lib.hid hCk
   have hPR := HPX.out.below_ HBk.out
   have HPR := Lib.hid hPR
   have HZCC := Lib.hid hzc
   clear hPk hZk hCk hzc hPR
   go_wp2
   refine wp_region_m (fun w' => w' = wr.drew) 3 (by kernel_rfl) ?_
   have hS0 : wr.drew = wr.drew := rfl
   refine zM (i := 0) (v := ?_) rfl (by kernel_rfl) (fun _ _ _ h => h) hS0 (Or.inl ⟨by rfl, (by intro w' hSw; go_simp; first | done | with_reducible rfl)⟩) ?_
   try simp only [Act.put, zA, zC, zD, zE, zF]
   refine zM (i := 1) (v := .agg C) rfl (by kernel_rfl) (fun _ _ _ h => h) hS0 (Or.inl ⟨by rfl, fun w' hSw => exec_load_row _ _ rfl w.heap.size rfl 37 C (0, 0) _ w' (by rw [hSw]; exact HCK.out) Tryz.underlying37 rfl HSZC.out⟩) ?_
   try simp only [Act.put, zA, zB, zC, zD, zE, zF]
   refine zM (i := 2) (v := ?_) rfl (by kernel_rfl) (fun _ _ _ h => h) hS0 (Or.inl ⟨by rfl, (by intro w' hSw; go_simp; first | done | with_reducible rfl)⟩) ?_
   try simp only [Act.put, zA, zB, zC, zD, zE, zF]
   refine wpAnyM_next (i := 3) (by kernel_rfl) rfl (fun K hK => ?_)
   rw [if_pos (by rfl)]
   refine wp_store_row 37 (.tmp 7) (.tmp 41) rfl (w.heap.size + 1) C rfl rfl 37 Z HZK.out HSZC.out HZCC.out HCO.out ?_
   refine hK.out _ _ (.inl (Nat.le_refl _)) ?_
   clear hK K
   try simp only [Act.put, zA, zB, zC]
   refine wpAnyM_next (i := 4) (by kernel_rfl) rfl (fun K hK => ?_)
   go_simp
   refine hK.out _ _ (.inl (by omega)) ?_
   clear hK K
   try simp only [Act.put, zA, zB, zC, zD, zE, zF]
   refine wpAnyM_done (by kernel_rfl) ?_ _
   have hE5 : Below X.heap.size X (wr.drew.setRow (w.heap.size + 1) C) → True := fun _ => trivial
   have HT5 : Hid (Turned (fun q => q = w.heap.size + 1) wr (wr.drew.setRow (w.heap.size + 1) C)) := ((Turned.refl (fun q => q = w.heap.size + 1) wr).drew).setRow (fun _ => rfl) _
   have HR5 : Hid (Rw (wr.drew.setRow (w.heap.size + 1) C) (w.heap.size + 1) 37 C) := Rw.row HZK.out C
   have HB5 : Hid (Below w.heap.size w (wr.drew.setRow (w.heap.size + 1) C)) := below_setRow ((HBX.out.trans (HBk.out.mono HBX.out.size)).drew) (by omega) _
   generalize wr.drew.setRow (w.heap.size + 1) C = w5 at *
   go_wp2
   have hz1 : w.heap.size + 1 < X.heap.size := HZX.out.lt
   refine bodyPost_ret (v := .tuple #[.pointer (some ⟨b, 0, none⟩), .agg C, .bool true]) (results_pam rfl _ _ (w.heap.size + 1) C _ _ _ rfl rfl rfl HSZC.out HR5.out) rfl ⟨_, X.heap.size, ⟨A, c, by rw [← HCC.out], HFS.out.1, HFS.out.2, ?_⟩, by omega, Nat.le_trans HBk.out.size HT5.out.size, HB5.out, .inr ⟨b, fk, sk, rfl, ?_, HSk.out.1, HSk.out.2.1, HSk.out.2.2.1, fun g => ⟨?_, ?_⟩, HFk.out⟩⟩
   ·rw [HL'.out]
    refine (HPR.out.turned_ HT5.out (fun q hq hf => ?_)).more_ (fun q hq => ?_)
    ·rcases hq with hq | hq
     ·have := HRL.out q hq; omega
     ·have := HWS.out; omega
    ·rcases hq with hq | hq
     ·exact .inl hq
     ·have h1 := HBk.out.size
      have h2 := HT5.out.size
      have h3 := HXS.out
      have h4 := HWS.out
      exact .inr ⟨by omega, by omega⟩
   ·rw [hF]
    exact ppager_turned HPk.out HT5.out (fun q hq => ⟨fun hm => by have := HFk.out q (.inl hm); omega, fun hm => by have := HFk.out q (.inr hm); omega⟩)
   ·rw [HSk.out.1]; exact g.root
   ·rw [HSk.out.2.2.2 g, List.take_length, HL'.out, HBL.out]; exact Pp.bare_back m.l
theorem pagain_any {w : World} {fd : Fp} {t : Sf.St} {bf : Nat} (hD : PDisk w fd t bf) (R : Nat → Prop) (v : Value) (m : Pa.M) (cache : Int) (h : PaIs w R v m) (hR : ∀ k, R k → k < w.heap.size) (hl : m.l.length ≤ 1000000) (hcm : I64 cache)
  (s0 : Pp.S) (ho : Pp.openE t ⟨#[105]⟩ cache = (some s0, 0)) (hs0 : s0.root = m.root ∧ s0.l = []) (hri : Pa.Rising (Pa.backL m.l)) (hpg : ∀ x ∈ Pa.backL m.l, 2 ≤ x.n ∧ (x.n : Int) < m.root.pages) :
  Calls Tryz.prog 12 #[.pointer (some ⟨bf, 0, none⟩), v, .int .i64 cache] w (IsAgain R m t s0 bf w) := by
 refine (pagain_gen hD R v m cache h hR hl hcm s0 ho hs0.2).mono ?_
 rintro e w' ⟨v', n, h1, h2, h3, h4, ⟨hn, _⟩ | ⟨b, f', s', h5, h6, _, h8, h9, h10, h11⟩⟩
 ·exact absurd ⟨hs0.1, hri, hpg⟩ hn
 ·exact ⟨v', b, f', s', n, h5, h1, h6, h10 ⟨hs0.1, hri, hpg⟩, h8, h9, h11, h2, h3, h4⟩
end Go.Proofs.YtiafeniflkikeaaGreat
namespace Go.Proofs.YtiafeniflkikeaaGreat
open Go.RowKit
set_option linter.unusedVariables false
theorem Pa.numbers_le (l : List Pa.Page) (s o : Int) : (Pa.numbers l s o).length ≤ l.length := by
 unfold Pa.numbers; rw [List.length_map]; exact List.length_filter_le _ _
set_option maxHeartbeats 2000000 in
set_option maxRecDepth 100000 in
theorem rpanumbers_any (R : Nat → Prop) (v : Value) (m : Pa.M) (s o : Int) (w : World) (h : PaIs w R v m) (hl : m.l.length ≤ 1000000) :
  Calls Tryz.prog 46 #[v, .int .i64 s, .int .i64 o] w (IsL1 iK (Pa.numbers m.l s o) w) := by
 obtain ⟨A, c, rfl, hf, hs, hp⟩ := h
 obtain ⟨D, hD⟩ : ∃ D, paC m.root A m.l.length c m.size = D := ⟨_, rfl⟩
 obtain ⟨W, hW⟩ : ∃ W, w.alloc (.cells D 37) = W := ⟨_, rfl⟩
 have hat : Rw W w.heap.size 37 (paC m.root A m.l.length c m.size) := by rw [← hW, hD]; exact Rw.new w _ _
 have hb : Below w.heap.size w W := by rw [← hW]; exact (Below.refl _ _).alloc (Nat.le_refl _) _
 have hWs : W.heap.size = w.heap.size + 1 := by rw [← hW]; simp
 have HWS := Lib.hid hWs
 have HB := Lib.hid hb
 have HP := Lib.hid (hp.below_ hb)
 have HC7 : Hid (∀ w', Below W.heap.size W w' → w'.cell? ⟨w.heap.size, 7, none⟩ = some (.slice A m.l.length c)) := fun w' hb' => (hat.below hb' hat.lt).cell 7
 have HL := Lib.hid hl
 rw [hD]
 clear hat hb hp hD hf hs hl hWs
 go_enter Tryz.func46, Tryz.ntmps46
 go_wp2
 go_loopw [7, 8] (fun v i wr => ∃ (k : Nat) (A2 : Option Addr) (c2 : Nat) (z : List Int), k ≤ m.l.length ∧ i = .int .i64 k ∧ v = .slice A2 z.length c2 ∧ Hid (z = Pa.numbers (m.l.take k) s o) ∧ Hid (OwnL iK wr W.heap.size (.slice A2 z.length c2) z) ∧ Hid (Below W.heap.size W wr)) (fun _ i _ => m.l.length - (intOf i).toNat)
 case atStart => exact ⟨0, none, 0, [], by omega, rfl, rfl, by unfold Hid; simp [Pa.numbers], OwnL.nil_ _ _ _, Below.refl _ _⟩
 case round =>
  obtain ⟨k, A2, c2, z, hk, rfl, rfl, HZ, HO, HBR⟩ := hrel
  have c7 := HC7.out wr HBR.out
  have hPr := HP.out.below_ HBR.out
  by_cases hlt : k < m.l.length
  ·obtain ⟨b, off, x, q, hA, hbl, hRb, hxo, hq, ho, hm⟩ := hPr.at_ hlt
   subst hA
   have e0 := hm 0 _ rfl
   have e1 := hm 1 _ rfl
   change wr.cell? ⟨b, off + k * 4, none⟩ = _ at e0
   have hll := HL.out
   have hi1 : m.l.length ≤ 9223372036854775807 := by omega
   have hzl : z.length ≤ 1000000 := by have := HZ.out; rw [this]; have := Pa.numbers_le (m.l.take k) s o; rw [List.length_take] at this; omega
   have HNX : Hid (Pa.numbers (m.l.take (k + 1)) s o = if Pa.isOf s o q then z ++ [(x.n : Int)] else z) := by
    unfold Hid; rw [take_snoc hq, Pa.numbers_snoc, ← HZ.out, ho.1]
   have hst : q.state = x.state := ho.2.1
   have HIS : Hid (Pa.isOf s o q = (decide ((x.state : Int) = s) || decide ((x.state : Int) = o))) := by unfold Hid Pa.isOf; rw [hst]
   have hxn : I64 (x.n : Int) := by have := hxo.1; unfold I64; omega
   have HXN := Lib.hid hxn
   have HSZ : Hid (W.heap.size ≤ wr.heap.size) := HBR.out.size
   clear hm ho hq hPr hxn hst hbl hRb hxo
   by_cases h1 : (x.state : Int) = s
   ·have HN : Hid (Pa.numbers (m.l.take (k + 1)) s o = z ++ [(x.n : Int)]) := by unfold Hid; rw [HNX.out, HIS.out]; simp [h1]
    clear hll
    go_wp2_with (at_builtin; go_must (refine wpList_push_l _ iK rfl _ _ rfl W.heap.size _ rfl z HO.out rfl _ HXN.out _ rfl _ rfl (by show _ * 8 ≤ _; omega) (by simp only [maxLen]; omega) HSZ.out ?_; intro A6 c6 w6 hA6 hG6))
    go_roundw
    case rel =>
     have hl1 : (z ++ [(x.n : Int)]).length = z.length + 1 := by simp
     exact ⟨k + 1, A6, c6, _, by omega, by go_num, by rw [hl1], HN.out.symm, by rw [hl1]; exact hA6, HBR.out.grown hG6 HSZ.out (fun k hk => (HO.out.lt_ k hk).1)⟩
    case measure => simp [intOf]; omega
   ·by_cases h2 : (x.state : Int) = o
    ·have HN : Hid (Pa.numbers (m.l.take (k + 1)) s o = z ++ [(x.n : Int)]) := by unfold Hid; rw [HNX.out, HIS.out]; simp [h2]
     clear hll
     go_wp2_with (at_builtin; go_must (refine wpList_push_l _ iK rfl _ _ rfl W.heap.size _ rfl z HO.out rfl _ HXN.out _ rfl _ rfl (by show _ * 8 ≤ _; omega) (by simp only [maxLen]; omega) HSZ.out ?_; intro A6 c6 w6 hA6 hG6))
     go_roundw
     case rel =>
      have hl1 : (z ++ [(x.n : Int)]).length = z.length + 1 := by simp
      exact ⟨k + 1, A6, c6, _, by omega, by go_num, by rw [hl1], HN.out.symm, by rw [hl1]; exact hA6, HBR.out.grown hG6 HSZ.out (fun k hk => (HO.out.lt_ k hk).1)⟩
     case measure => simp [intOf]; omega
    ·have HN : Hid (Pa.numbers (m.l.take (k + 1)) s o = z) := by unfold Hid; rw [HNX.out, HIS.out]; simp [h1, h2]
     have b1 : ((x.state : Int) == s) = false := by simpa using h1
     have b2 : ((x.state : Int) == o) = false := by simpa using h2
     have b3 : (((x.state : Int) == s) || ((x.state : Int) == o)) = false := by rw [b1, b2]; rfl
     clear hll
     go_wp2
     go_roundw
     case rel => exact ⟨k + 1, A2, c2, z, by omega, by go_num, rfl, HN.out.symm, HO.out, HBR.out⟩
     case measure => simp [intOf]; omega
  ·have h0 : k = m.l.length := by omega
   subst h0
   have HE : Hid (z = Pa.numbers m.l s o) := by unfold Hid; rw [HZ.out, List.take_length]
   clear hPr
   go_wp2
   go_ret
   rw [← HE.out]
   exact ⟨A2, c2, rfl, HO.out.mono_ HB.out.size, HB.out.trans (HBR.out.mono HB.out.size)⟩
set_option maxHeartbeats 2000000 in
set_option maxRecDepth 100000 in
theorem rparead_any (R : Nat → Prop) (v : Value) (m : Pa.M) (n : Int) (w : World) (h : PaIs w R v m) (hl : m.l.length ≤ 1000000) (h5 : ∀ x ∈ m.l, x.body.length ≤ 496) :
  Calls Tryz.prog 50 #[v, .int .i64 n] w (IsKL (Pa.read m.l n) w) := by
 have HV := Lib.hid h
 obtain ⟨A, c, rfl, hf, hs, hp⟩ := h
 have hsz := pa_size
 have hcs := paC_size m.root A m.l.length c m.size
 obtain ⟨D, hD⟩ : ∃ D, paC m.root A m.l.length c m.size = D := ⟨_, rfl⟩
 obtain ⟨W, hW⟩ : ∃ W, w.alloc (.cells D 37) = W := ⟨_, rfl⟩
 have hat : Rw W w.heap.size 37 (paC m.root A m.l.length c m.size) := by rw [← hW, hD]; exact Rw.new w _ _
 have hb : Below w.heap.size w W := by rw [← hW]; exact (Below.refl _ _).alloc (Nat.le_refl _) _
 have HB := Lib.hid hb
 have HP := Lib.hid (hp.below_ hb)
 have HC7 : Hid (∀ w', Below W.heap.size W w' → w'.cell? ⟨w.heap.size, 7, none⟩ = some (.slice A m.l.length c)) := fun w' hb' => (hat.below hb' hat.lt).cell 7
 have HRD : Hid (Rw W w.heap.size 37 D) := by unfold Hid; rw [← hD]; exact hat
 have HCA := Lib.hid (rpaat_any R _ m n W (HV.out.below_ hb) (by omega))
 rw [hD] at HCA ⊢
 rw [hD] at hcs
 rw [← hcs] at hsz
 have HSZ := Lib.hid hsz
 have HL := Lib.hid hl
 have H5 := Lib.hid h5
 have HI : Hid (Pa.atI m.l n = match Pa.idx m.l n with | some i => (i : Int) | none => -1) := rfl
 clear hat hb hp hD hf hs hl h5 hsz hcs HV
 cases hi : Pa.idx m.l n with
 | none =>
  have HE : Hid (Pa.read m.l n = (0, [], 7)) := by unfold Hid Pa.read Pa.find; rw [hi]; rfl
  have hx : Pa.atI m.l n = -1 := by rw [HI.out, hi]
  rw [hx] at HCA
  clear hx hi HI
  go_enter Tryz.func50, Tryz.ntmps50
  go_wp2_with ((with_reducible refine gate_load 37 ?_); refine wpList_load_row rfl 37 _ rfl w.heap.size rfl 37 D (0, 0) _ HRD.out Tryz.underlying37 rfl HSZ.out ?_)
  refine HCA.out.mono ?_
  rintro e w2 ⟨rfl, b2⟩
  have HB2 := Lib.hid (HB.out.trans (b2.mono HB.out.size))
  clear b2 HCA HB
  go_wp2
  go_ret3
  exact IsKL.none_b HE.out rfl rfl HB2.out
 | some i =>
  have hx : Pa.atI m.l n = (i : Int) := by rw [HI.out, hi]
  rw [hx] at HCA
  obtain ⟨q0, hq0, hn⟩ := Pa.idx_lt hi
  have hlt : i < m.l.length := (List.getElem?_eq_some_iff.1 hq0).1
  have HE : Hid (Pa.read m.l n = (q0.kind, q0.body, 0)) := by unfold Hid Pa.read Pa.find; rw [hi]; simp [hq0]
  obtain ⟨b, off, x, q, hA, hbl, hRb, hxo, hq, ho, hm⟩ := HP.out.at_ hlt
  subst hA
  rw [hq0] at hq
  obtain rfl := Option.some.inj hq
  have HO := Lib.hid ho
  have HM : Hid (∀ w', Below W.heap.size W w' → w'.cell? ⟨b, off + i * 4 + 2, none⟩ = some (.int .u8 (x.kind : Nat)) ∧ w'.cell? ⟨b, off + i * 4 + 3, none⟩ = some (.slice x.A x.m x.c)) := fun w' hb' =>
   ⟨(hb'.cell (p := ⟨b, off + i * 4 + 2, none⟩) (by show b < _; omega)).trans (hm 2 _ rfl), (hb'.cell (p := ⟨b, off + i * 4 + 3, none⟩) (by show b < _; omega)).trans (hm 3 _ rfl)⟩
  have hi0 : (0 : Int) ≤ (i : Int) := by omega
  have hi1 : (i : Int) < (m.l.length : Int) := by omega
  have hi2 : m.l.length ≤ 9223372036854775807 := by have := HL.out; omega
  have HB5 : Hid (q0.body.length ≤ 496) := H5.out q0 (List.mem_of_getElem? hq0)
  have hng : ¬ (i : Int) < 0 := by omega
  have HKD := Lib.hid ho.2.2.1
  clear hx hi HI hq0 hn hm ho hxo hRb hlt
  go_enter Tryz.func50, Tryz.ntmps50
  go_wp2_with ((with_reducible refine gate_load 37 ?_); refine wpList_load_row rfl 37 _ rfl w.heap.size rfl 37 D (0, 0) _ HRD.out Tryz.underlying37 rfl HSZ.out ?_)
  refine HCA.out.mono ?_
  rintro e w2 ⟨rfl, b2⟩
  have HB2 := Lib.hid b2
  have hlv := HO.out.2.2.2.below_ b2
  have JC := Lib.hid (copyO_any _ q0.body w2.heap.size w2.drew hlv.1 (by have := HB5.out; omega))
  have hS0 : Below W.heap.size W w2.drew := b2.drew
  clear b2 HCA hlv
  go_wp2
  refine wp_region_held_drew (S := fun w' => Below W.heap.size W w') (by kernel_rfl) hS0 (fun hH => ?_)
  refine zH (i := 0) (v := ?_) rfl (by kernel_rfl) (fun _ _ _ h => h) (Or.inl ⟨by rfl, (by intro w' hSw; go_simp; first | done | with_reducible rfl)⟩) hH ?_
  try simp only [Act.put, zA, zC, zD, zE, zF]
  refine zH (i := 1) (v := ?_) rfl (by kernel_rfl) (fun _ _ _ h => h) (Or.inl ⟨by rfl, (by intro w' hSw; have s1 := HC7.out w' hSw; go_simp; first | done | with_reducible rfl)⟩) hH ?_
  try simp only [Act.put, zA, zB, zC, zD, zE, zF]
  refine zH (i := 2) (v := ?_) rfl (by kernel_rfl) (fun _ _ _ h => h) (Or.inl ⟨by rfl, (by intro w' hSw; go_simp; first | done | with_reducible rfl)⟩) hH ?_
  try simp only [Act.put, zA, zB, zC, zD, zE, zF]
  refine zH (i := 3) (v := ?_) rfl (by kernel_rfl) (fun _ _ _ h => h) (Or.inl ⟨by rfl, (by intro w' hSw; go_simp; first | done | with_reducible rfl)⟩) hH ?_
  try simp only [Act.put, zA, zB, zC, zD, zE, zF]
  refine zH (i := 4) (v := ?_) rfl (by kernel_rfl) (fun _ _ _ h => h) (Or.inl ⟨by rfl, (by intro w' hSw; go_simp; first | done | with_reducible rfl)⟩) hH ?_
  try simp only [Act.put, zA, zB, zC, zD, zE, zF]
  refine zH (i := 5) (v := ?_) rfl (by kernel_rfl) (fun _ _ _ h => h) (Or.inl ⟨by rfl, (by intro w' hSw; have s1 := (HM.out w' hSw).1; go_simp; first | done | with_reducible rfl)⟩) hH ?_
  try simp only [Act.put, zA, zB, zC, zD, zE, zF]
  refine zH (i := 6) (v := ?_) rfl (by kernel_rfl) (fun _ _ _ h => h) (Or.inl ⟨by rfl, (by intro w' hSw; go_simp; first | done | with_reducible rfl)⟩) hH ?_
  try simp only [Act.put, zA, zB, zC, zD, zE, zF]
  refine zH (i := 7) (v := ?_) rfl (by kernel_rfl) (fun _ _ _ h => h) (Or.inl ⟨by rfl, (by intro w' hSw; have s1 := HC7.out w' hSw; go_simp; first | done | with_reducible rfl)⟩) hH ?_
  try simp only [Act.put, zA, zB, zC, zD, zE, zF]
  refine zH (i := 8) (v := ?_) rfl (by kernel_rfl) (fun _ _ _ h => h) (Or.inl ⟨by rfl, (by intro w' hSw; go_simp; first | done | with_reducible rfl)⟩) hH ?_
  try simp only [Act.put, zA, zB, zC, zD, zE, zF]
  refine zH (i := 9) (v := ?_) rfl (by kernel_rfl) (fun _ _ _ h => h) (Or.inl ⟨by rfl, (by intro w' hSw; go_simp; first | done | with_reducible rfl)⟩) hH ?_
  try simp only [Act.put, zA, zB, zC, zD, zE, zF]
  refine zH (i := 10) (v := ?_) rfl (by kernel_rfl) (fun _ _ _ h => h) (Or.inl ⟨by rfl, (by intro w' hSw; go_simp; first | done | with_reducible rfl)⟩) hH ?_
  try simp only [Act.put, zA, zB, zC, zD, zE, zF]
  refine zH (i := 11) (v := ?_) rfl (by kernel_rfl) (fun _ _ _ h => h) (Or.inl ⟨by rfl, (by intro w' hSw; have s1 := (HM.out w' hSw).2; go_simp; first | done | with_reducible rfl)⟩) hH ?_
  try simp only [Act.put, zA, zB, zC, zD, zE, zF]
  refine wpAnyH_ready (rs := [12]) (by kernel_rfl) (by simp) ?_
  refine AllReadyH.cons rfl (fun K hK => ?_) AllReadyH.nil
  go_simp
  refine JC.out.mono ?_
  rintro e x1 ⟨A4, c4, rfl, o4, b4⟩
  have HB4 : Hid (Below W.heap.size W x1) := hS0.trans (b4.mono hS0.size)
  have HO4 : Hid (OwnL yK x1 w.heap.size (.slice A4 q0.body.length c4) q0.body) := o4.mono_ (Nat.le_trans HB.out.size hS0.size)
  refine hK.out _ _ HB4.out (fun hH => ?_)
  clear hK K b4 o4 JC
  try simp only [Act.put, zA, zB, zC, zD, zE, zF]
  refine zH (i := 13) (v := ?_) rfl (by kernel_rfl) (fun _ _ _ h => h) (Or.inl ⟨by rfl, (by intro w' hSw; go_simp; first | done | with_reducible rfl)⟩) hH ?_
  try simp only [Act.put, zA, zB, zC, zD, zE, zF]
  refine zH (i := 14) (v := ?_) rfl (by kernel_rfl) (fun _ _ _ h => h) (Or.inl ⟨by rfl, (by intro w' hSw; go_simp; first | done | with_reducible rfl)⟩) hH ?_
  try simp only [Act.put, zA, zB, zC, zD, zE, zF]
  refine zH (i := 15) (v := ?_) rfl (by kernel_rfl) (fun _ _ _ h => h) (Or.inl ⟨by rfl, (by intro w' hSw; go_simp; first | done | with_reducible rfl)⟩) hH ?_
  try simp only [Act.put, zA, zB, zC, zD, zE, zF]
  refine wpAnyH_done (by kernel_rfl) ?_ _
  clear hH
  rw [HKD.out] at HE
  go_wp2
  go_ret3
  exact IsKL.of HE.out rfl rfl HO4.out (HB.out.trans (HB4.out.mono HB.out.size))
end Go.Proofs.YtiafeniflkikeaaGreat
namespace Go.Proofs.YtiafeniflkikeaaGreat
open Go.RowKit
set_option linter.unusedVariables false
theorem Pp.bare_numbers {l l' : List Pa.Page} (h : l.map Pp.bare = l'.map Pp.bare) (a b : Int) : Pa.numbers l a b = Pa.numbers l' a b := by
 have e : ∀ l : List Pa.Page, Pa.numbers (l.map Pp.bare) a b = Pa.numbers l a b := by
  intro l
  unfold Pa.numbers
  rw [List.filter_map, List.map_map]
  have hs : ∀ x : Pa.Page, (Pp.bare x).n = x.n ∧ (Pp.bare x).state = x.state := fun x => by unfold Pp.bare; split <;> exact ⟨rfl, rfl⟩
  have h1 : (Pa.isOf a b ∘ Pp.bare) = Pa.isOf a b := by funext x; simp [Pa.isOf, (hs x).2]
  rw [h1]
  refine List.map_congr_left fun x _ => ?_
  show ((Pp.bare x).n : Int) = _
  rw [(hs x).1]
 rw [← e l, ← e l', h]
set_option maxHeartbeats 2000000 in
set_option maxRecDepth 100000 in
theorem palike_any {w : World} {f : Fp} {s : Pp.S} {F : List Nat} {b bf : Nat} (hP : PPager w f s F b bf) (R : Nat → Prop) (v : Value) (m : Pa.M) (cache : Int) (h : PaIs w R v m) (hl : m.l.length ≤ 1000000) (hs : Pp.Is s m) (hc : (s.cache : Int) ≤ cache) (hcm : I64 cache) :
  Calls Tryz.prog 11 #[.pointer (some ⟨b, 0, none⟩), v, .int .i64 cache] w (IsBool true w) := by
 have HV := Lib.hid h
 obtain ⟨A, c, rfl, hf, hss, hp⟩ := h
 have hsz := pa_size
 rw [← paC_size m.root A m.l.length c m.size] at hsz
 obtain ⟨D, hD⟩ : ∃ D, paC m.root A m.l.length c m.size = D := ⟨_, rfl⟩
 obtain ⟨W, hW⟩ : ∃ W, w.alloc (.cells D 37) = W := ⟨_, rfl⟩
 have hat : Rw W w.heap.size 37 (paC m.root A m.l.length c m.size) := by rw [← hW, hD]; exact Rw.new w _ _
 have hb : Below w.heap.size w W := by rw [← hW]; exact (Below.refl _ _).alloc (Nat.le_refl _) _
 have HAT := Lib.hid hat
 have HB := Lib.hid hb
 have HRD : Hid (∀ w', Below W.heap.size W w' → Rw w' w.heap.size 37 D) := fun w' hb' => by rw [← hD]; exact hat.below hb' hat.lt
 obtain ⟨E, hE⟩ : ∃ D, rtC m.root = D := ⟨_, rfl⟩
 have HRG : Hid (∀ w', Below W.heap.size W w' → w'.rangeAt w.heap.size 0 E.toList) := fun w' hb' => by
  have hr := hat.below hb' hat.lt
  rw [← hE]
  intro j u hj
  rw [hr.cell, Nat.zero_add]
  have hj7 : j < 7 := by have := (List.getElem?_eq_some_iff.1 hj).1; exact this
  have hi : j = 0 ∨ j = 1 ∨ j = 2 ∨ j = 3 ∨ j = 4 ∨ j = 5 ∨ j = 6 := by omega
  rcases hi with rfl | rfl | rfl | rfl | rfl | rfl | rfl <;> exact hj
 have HSE : Hid ((Tryz.prog.info? 34).map (·.size) = some E.size) := by unfold Hid; rw [← hE, rtC_size]; exact rt_size
 have HSD := Lib.hid hsz
 rw [hD] at HSD
 have HPG : Hid (∀ w', Below W.heap.size W w' → PPager w' f s F b bf) := fun w' hb' => ppager_turned (ppager_turned hP (Turned.of_below hb) ((ppager_lt hP).off fun _ h => h)) (Turned.of_below hb') ((ppager_lt hP).off fun k hk => Nat.le_trans hb.size hk)
 have HPV : Hid (∀ w', Below W.heap.size W w' → PaIs w' R (.agg D) m) := fun w' hb' => by
  have h1 := (HV.out.below_ hb)
  have h2 := h1.below_ hb'
  rw [hD] at h2
  exact h2
 have HN2 : Hid (Pa.numbers s.l 2 2 = Pa.numbers m.l 2 2) := Pp.bare_numbers hs.l 2 2
 have HN1 : Hid (Pa.numbers s.l 1 3 = Pa.numbers m.l 1 3) := Pp.bare_numbers hs.l 1 3
 have HC := Lib.hid hc
 have HL := Lib.hid hl
 have heq : ∀ w, (Op.equalIn 10000 34 (.agg E) (.agg E)).run Tryz.prog w = .ok true w := fun w => by
  rw [← hE]; have := rt_equalIn m.root m.root w; rwa [show decide (m.root = m.root) = true by simp] at this
 have HRT : Hid (rtC s.root = E) := by unfold Hid; rw [hs.root]; exact hE
 rw [hD]
 clear hat hb hD hE hf hss hp hl hs hc hsz hP
 go_enter Tryz.func11, Tryz.ntmps11
 go_wp2
 have hS0 : Below W.heap.size W W.drew := (Below.refl _ _).drew
 refine wp_region_held_drew (S := fun w' => Below W.heap.size W w') (by kernel_rfl) hS0 (fun hH => ?_)
 refine zH (i := 0) (v := ?_) rfl (by kernel_rfl) (fun _ _ _ h => h) (Or.inl ⟨by rfl, (by intro w' hSw; go_simp; first | done | with_reducible rfl)⟩) hH ?_
 try simp only [Act.put, zA, zC, zD, zE, zF]
 refine zH (i := 2) (v := ?_) rfl (by kernel_rfl) (fun _ _ _ h => h) (Or.inl ⟨by rfl, (by intro w' hSw; go_simp; first | done | with_reducible rfl)⟩) hH ?_
 try simp only [Act.put, zA, zB, zC, zD, zE, zF]
 refine zH (i := 3) (v := .agg E) rfl (by kernel_rfl) (fun _ _ _ h => h) (Or.inl ⟨by rfl, fun w' hSw => exec_load_mid _ _ rfl w.heap.size 0 rfl E _ w' (HRG.out w' hSw) Tryz.underlying34 rfl HSE.out⟩) hH ?_
 try simp only [Act.put, zA, zB, zC, zD, zE, zF]
 refine wpAnyH_ready (rs := [1]) (by kernel_rfl) (by simp) ?_
 refine AllReadyH.cons rfl (fun K hK => ?_) AllReadyH.nil
 go_simp
 refine (pproot_any (HPG.out _ hS0)).mono ?_
 rintro e w1 ⟨rfl, b1⟩
 have hS1 : Below W.heap.size W w1 := hS0.trans (b1.mono hS0.size)
 refine hK.out _ _ hS1 (fun hH => ?_)
 rw [HRT.out]
 clear hK K hS0 b1
 try simp only [Act.put, zA, zB, zC, zD, zE, zF]
 refine zH (i := 4) (v := ?_) rfl (by kernel_rfl) (fun _ _ _ h => h) (Or.inl ⟨by rfl, (by intro w' hSw; go_simp; first | done | with_reducible rfl)⟩) hH ?_
 try simp only [Act.put, zA, zB, zC, zD, zE, zF]
 refine zH (i := 5) (v := ?_) rfl (by kernel_rfl) (fun _ _ _ h => h) (Or.inl ⟨by rfl, (by intro w' hSw; go_simp; first | done | with_reducible rfl)⟩) hH ?_
 try simp only [Act.put, zA, zB, zC, zD, zE, zF]
 refine zH (i := 6) (v := ?_) rfl (by kernel_rfl) (fun _ _ _ h => h) (Or.inl ⟨by rfl, (by intro w' hSw; go_simp; first | done | with_reducible rfl)⟩) hH ?_
 try simp only [Act.put, zA, zB, zC, zD, zE, zF]
 refine zH (i := 8) (v := .agg D) rfl (by kernel_rfl) (fun _ _ _ h => h) (Or.inl ⟨by rfl, fun w' hSw => exec_load_row _ _ rfl w.heap.size rfl 37 D (0, 0) _ w' (HRD.out w' hSw) Tryz.underlying37 rfl HSD.out⟩) hH ?_
 try simp only [Act.put, zA, zB, zC, zD, zE, zF]
 refine wpAnyH_ready (rs := [7]) (by kernel_rfl) (by simp) ?_
 refine AllReadyH.cons rfl (fun K hK => ?_) AllReadyH.nil
 go_simp
 refine (pppending_any (HPG.out _ hS1)).mono ?_
 rintro e w2 ⟨A2, c2, rfl, l2, b2⟩
 have hS2 : Below W.heap.size W w2 := hS1.trans (b2.mono hS1.size)
 refine hK.out _ _ hS2 (fun hH => ?_)
 clear hK K hS1 b2
 try simp only [Act.put, zA, zB, zC, zD, zE, zF]
 refine wpAnyH_ready (rs := [9]) (by kernel_rfl) (by simp) ?_
 refine AllReadyH.cons rfl (fun K hK => ?_) AllReadyH.nil
 go_simp
 refine (rpanumbers_any R _ m 2 2 w2 (HPV.out _ hS2) HL.out).mono ?_
 rintro e w3 ⟨A3, c3, rfl, o3, b3⟩
 have hS3 : Below W.heap.size W w3 := hS2.trans (b3.mono hS2.size)
 refine hK.out _ _ hS3 (fun hH => ?_)
 have HI := Lib.hid (ints_lv _ _ _ _ _ _ w3 (l2.below_ b3 (Nat.le_refl _)) o3.form_)
 have hdd : decide (Pa.numbers s.l 2 2 = Pa.numbers m.l 2 2) = true := decide_eq_true HN2.out
 rw [hdd] at HI
 clear hK K hS2 b3 l2 o3 hdd
 try simp only [Act.put, zA, zB, zC, zD, zE, zF]
 refine wpAnyH_ready (rs := [10]) (by kernel_rfl) (by simp) ?_
 refine AllReadyH.cons rfl (fun K hK => ?_) AllReadyH.nil
 go_simp
 refine HI.out.mono ?_
 rintro e w4 ⟨rfl, b4⟩
 have hS4 : Below W.heap.size W w4 := hS3.trans (b4.mono hS3.size)
 refine hK.out _ _ hS4 (fun hH => ?_)
 clear hK K hS3 b4 HI
 try simp only [Act.put, zA, zB, zC, zD, zE, zF]
 refine zH (i := 11) (v := ?_) rfl (by kernel_rfl) (fun _ _ _ h => h) (Or.inl ⟨by rfl, (by intro w' hSw; go_simp; first | done | with_reducible rfl)⟩) hH ?_
 try simp only [Act.put, zA, zB, zC, zD, zE, zF]
 refine zH (i := 12) (v := ?_) rfl (by kernel_rfl) (fun _ _ _ h => h) (Or.inl ⟨by rfl, (by intro w' hSw; go_simp; first | done | with_reducible rfl)⟩) hH ?_
 try simp only [Act.put, zA, zB, zC, zD, zE, zF]
 refine zH (i := 13) (v := ?_) rfl (by kernel_rfl) (fun _ _ _ h => h) (Or.inl ⟨by rfl, (by intro w' hSw; go_simp; first | done | with_reducible rfl)⟩) hH ?_
 try simp only [Act.put, zA, zB, zC, zD, zE, zF]
 refine zH (i := 15) (v := .agg D) rfl (by kernel_rfl) (fun _ _ _ h => h) (Or.inl ⟨by rfl, fun w' hSw => exec_load_row _ _ rfl w.heap.size rfl 37 D (0, 0) _ w' (HRD.out w' hSw) Tryz.underlying37 rfl HSD.out⟩) hH ?_
 try simp only [Act.put, zA, zB, zC, zD, zE, zF]
 refine wpAnyH_ready (rs := [14]) (by kernel_rfl) (by simp) ?_
 refine AllReadyH.cons rfl (fun K hK => ?_) AllReadyH.nil
 go_simp
 refine (ppinuse_any (HPG.out _ hS4)).mono ?_
 rintro e w5 ⟨A5, c5, rfl, l5, b5⟩
 have hS5 : Below W.heap.size W w5 := hS4.trans (b5.mono hS4.size)
 refine hK.out _ _ hS5 (fun hH => ?_)
 clear hK K hS4 b5
 try simp only [Act.put, zA, zB, zC, zD, zE, zF]
 refine wpAnyH_ready (rs := [16]) (by kernel_rfl) (by simp) ?_
 refine AllReadyH.cons rfl (fun K hK => ?_) AllReadyH.nil
 go_simp
 refine (rpanumbers_any R _ m 1 3 w5 (HPV.out _ hS5) HL.out).mono ?_
 rintro e w6 ⟨A6, c6, rfl, o6, b6⟩
 have hS6 : Below W.heap.size W w6 := hS5.trans (b6.mono hS5.size)
 refine hK.out _ _ hS6 (fun hH => ?_)
 have HI := Lib.hid (ints_lv _ _ _ _ _ _ w6 (l5.below_ b6 (Nat.le_refl _)) o6.form_)
 have hdd : decide (Pa.numbers s.l 1 3 = Pa.numbers m.l 1 3) = true := decide_eq_true HN1.out
 rw [hdd] at HI
 clear hK K hS5 b6 l5 o6 hdd
 try simp only [Act.put, zA, zB, zC, zD, zE, zF]
 refine wpAnyH_ready (rs := [17]) (by kernel_rfl) (by simp) ?_
 refine AllReadyH.cons rfl (fun K hK => ?_) AllReadyH.nil
 go_simp
 refine HI.out.mono ?_
 rintro e w7 ⟨rfl, b7⟩
 have hS7 : Below W.heap.size W w7 := hS6.trans (b7.mono hS6.size)
 refine hK.out _ _ hS7 (fun hH => ?_)
 clear hK K hS6 b7 HI
 try simp only [Act.put, zA, zB, zC, zD, zE, zF]
 refine zH (i := 18) (v := ?_) rfl (by kernel_rfl) (fun _ _ _ h => h) (Or.inl ⟨by rfl, (by intro w' hSw; go_simp; first | done | with_reducible rfl)⟩) hH ?_
 try simp only [Act.put, zA, zB, zC, zD, zE, zF]
 refine zH (i := 19) (v := ?_) rfl (by kernel_rfl) (fun _ _ _ h => h) (Or.inl ⟨by rfl, (by intro w' hSw; go_simp; first | done | with_reducible rfl)⟩) hH ?_
 try simp only [Act.put, zA, zB, zC, zD, zE, zF]
 refine zH (i := 20) (v := ?_) rfl (by kernel_rfl) (fun _ _ _ h => h) (Or.inl ⟨by rfl, (by intro w' hSw; go_simp; first | done | with_reducible rfl)⟩) hH ?_
 try simp only [Act.put, zA, zB, zC, zD, zE, zF]
 refine wpAnyH_ready (rs := [21]) (by kernel_rfl) (by simp) ?_
 refine AllReadyH.cons rfl (fun K hK => ?_) AllReadyH.nil
 go_simp
 refine (ppcached_any (HPG.out _ hS7)).mono ?_
 rintro e w8 ⟨n8, hn8, rfl, b8⟩
 have hS8 : Below W.heap.size W w8 := hS7.trans (b8.mono hS7.size)
 refine hK.out _ _ hS8 (fun hH => ?_)
 clear hK K hS7 b8 hn8
 try simp only [Act.put, zA, zB, zC, zD, zE, zF]
 refine zH (i := 22) (v := ?_) rfl (by kernel_rfl) (fun _ _ _ h => h) (Or.inl ⟨by rfl, (by intro w' hSw; go_simp; first | done | with_reducible rfl)⟩) hH ?_
 try simp only [Act.put, zA, zB, zC, zD, zE, zF]
 refine zH (i := 23) (v := ?_) rfl (by kernel_rfl) (fun _ _ _ h => h) (Or.inl ⟨by rfl, (by intro w' hSw; go_simp; first | done | with_reducible rfl)⟩) hH ?_
 try simp only [Act.put, zA, zB, zC, zD, zE, zF]
 refine zH (i := 24) (v := ?_) rfl (by kernel_rfl) (fun _ _ _ h => h) (Or.inl ⟨by rfl, (by intro w' hSw; go_simp; first | done | with_reducible rfl)⟩) hH ?_
 try simp only [Act.put, zA, zB, zC, zD, zE, zF]
 refine zH (i := 25) (v := ?_) rfl (by kernel_rfl) (fun _ _ _ h => h) (Or.inl ⟨by rfl, (by intro w' hSw; go_simp; first | done | with_reducible rfl)⟩) hH ?_
 try simp only [Act.put, zA, zB, zC, zD, zE, zF]
 refine zH (i := 27) (v := ?_) rfl (by kernel_rfl) (fun _ _ _ h => h) (Or.inl ⟨by rfl, (by intro w' hSw; go_simp; first | done | with_reducible rfl)⟩) hH ?_
 try simp only [Act.put, zA, zB, zC, zD, zE, zF]
 refine wpAnyH_ready (rs := [26]) (by kernel_rfl) (by simp) ?_
 refine AllReadyH.cons rfl (fun K hK => ?_) AllReadyH.nil
 go_simp
 refine (ppcached_any (HPG.out _ hS8)).mono ?_
 rintro e w9 ⟨n9, hn9, rfl, b9⟩
 have hS9 : Below W.heap.size W w9 := hS8.trans (b9.mono hS8.size)
 have hle : (n9 : Int) ≤ cache := by have := HC.out; omega
 refine hK.out _ _ hS9 (fun hH => ?_)
 clear hK K hS8 b9
 try simp only [Act.put, zA, zB, zC, zD, zE, zF]
 refine zH (i := 28) (v := ?_) rfl (by kernel_rfl) (fun _ _ _ h => h) (Or.inl ⟨by rfl, (by intro w' hSw; go_simp; first | done | with_reducible rfl)⟩) hH ?_
 try simp only [Act.put, zA, zB, zC, zD, zE, zF]
 refine zH (i := 29) (v := ?_) rfl (by kernel_rfl) (fun _ _ _ h => h) (Or.inl ⟨by rfl, (by intro w' hSw; go_simp; first | done | with_reducible rfl)⟩) hH ?_
 try simp only [Act.put, zA, zB, zC, zD, zE, zF]
 refine zH (i := 30) (v := ?_) rfl (by kernel_rfl) (fun _ _ _ h => h) (Or.inl ⟨by rfl, (by intro w' hSw; go_simp; first | done | with_reducible rfl)⟩) hH ?_
 try simp only [Act.put, zA, zB, zC, zD, zE, zF]
 refine wpAnyH_done (by kernel_rfl) ?_ _
 clear hH
 have HB9 := Lib.hid (HB.out.trans (hS9.mono HB.out.size))
 clear hS9
 go_wp2
 go_ret
 exact ⟨rfl, HB9.out⟩
end Go.Proofs.YtiafeniflkikeaaGreat
namespace Go.Proofs.YtiafeniflkikeaaGreat.Pp
set_option linter.unusedVariables false
theorem may_new : Rt.May Pa.new.root := by unfold Rt.May Pa.new; decide +kernel
theorem told_made : told made = (Pa.new.root, 0) := by
 obtain ⟨P, h1, h2, h3⟩ := Rt.put_page may_new
 have e1 : ((Pa.new.root.seq % 2 : Nat) : Int) = 1 := rfl
 rw [e1] at h1 h3
 have hp : P = Pg.page 1 1 (Rt.bys (Rt.nums Pa.new.root)) := (Pg.getE_put h1).2.1
 have hl : P.length = 512 := (Rt.page_len h2).1
 have hm : made = List.replicate 512 0 ++ P := by rw [hp]; rfl
 unfold told
 have hz : (List.replicate 512 0 : List Nat).length = 512 := List.length_replicate
 obtain ⟨Q, hQ⟩ : ∃ Q : List Nat, List.replicate 512 0 = Q := ⟨_, rfl⟩
 rw [hQ] at hm hz
 have ht : made.take 512 = Q := by rw [hm, List.take_append_of_le_length (by omega), List.take_of_length_le (by omega)]
 have hd : (made.drop 512).take 512 = P := by rw [hm, List.drop_append_of_le_length (by omega), List.drop_of_length_le (by omega), List.nil_append, List.take_of_length_le (by omega)]
 subst hQ
 rw [ht, hd]
 have h0 : (Pg.getE 0 (List.replicate 512 0)).2.2 ≠ 0 := by
  exact Pg.noughts 0
 have h4 : (Rt.getE 0 (List.replicate 512 0)).2 ≠ 0 := by
  obtain ⟨⟨k, c, e⟩, hg⟩ : ∃ x, Pg.getE 0 (List.replicate 512 0) = x := ⟨_, rfl⟩
  rw [hg] at h0
  rw [Rt.getE_page (by omega) hg h0]
  exact h0
 unfold Rt.pickE
 rw [if_neg (by rw [h3]; intro h; exact h.2 rfl), if_neg (by intro h; exact h4 h.1), h3]
theorem made_len : made.length = 1024 := by
 obtain ⟨P, h1, h2, h3⟩ := Rt.put_page may_new
 have e1 : ((Pa.new.root.seq % 2 : Nat) : Int) = 1 := rfl
 rw [e1] at h1
 have hp : P = Pg.page 1 1 (Rt.bys (Rt.nums Pa.new.root)) := (Pg.getE_put h1).2.1
 have hl : P.length = 512 := (Rt.page_len h2).1
 show (List.replicate 512 0 ++ Pg.page 1 1 (Rt.bys (Rt.nums Pa.new.root))).length = 1024
 rw [List.length_append, ← hp, hl, List.length_replicate]
theorem goes_new (name : ByteArray) (cache : Nat) : Goes ⟨name, Pa.new.root, cache, [], 0⟩ made Pa.new :=
 ⟨rfl, rfl, ⟨may_new, List.Pairwise.nil, (fun x hx => absurd hx List.not_mem_nil)⟩, made_len.symm, (fun x hx => absurd hx List.not_mem_nil), (fun x hx => absurd hx List.not_mem_nil), told_made⟩
theorem open_made {t : Sf.St} {name : ByteArray} {k : Nat} (hg : Sf.get t name = (k, 0)) (hf : Sf.now (Sf.fileAt t k) = made) (cache : Int) (h0 : 0 ≤ cache) (h1 : cache ≤ 256) :
  openE t name cache = (some ⟨name, Pa.new.root, cache.toNat, [], 0⟩, 0) := by
 unfold openE
 rw [if_neg (by omega), hg, if_neg (by simp), hf, if_neg (by rw [made_len]; omega), told_made, if_neg (by simp)]
end Go.Proofs.YtiafeniflkikeaaGreat.Pp
