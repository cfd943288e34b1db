/- Parts of the proof. -/
import Derived.Test.YtiafeniflkikeaaGreatPm41
import Derived.Test.YtiafeniflkikeaaGreatPm42
import Derived.Test.YtiafeniflkikeaaGreatPm32
import Derived.Test.YtiafeniflkikeaaGreatPm13
import Derived.Test.YtiafeniflkikeaaGreatPm37
import Derived.Test.YtiafeniflkikeaaGreatPm11
import Derived.Test.YtiafeniflkikeaaGreatPm12
import Derived.Test.YtiafeniflkikeaaGreatPm02
import Derived.Test.YtiafeniflkikeaaGreatPm04
import Derived.Deep.QuietTactic
import Derived.BigQuiet
namespace Go.Proofs.YtiafeniflkikeaaGreat
open Go.RowKit
set_option linter.unusedVariables false
structure Pp.Is (s : Pp.S) (m : Pa.M) : Prop where
 root : s.root = m.root
 l : s.l.map Pp.bare = m.l.map Pp.bare
structure Pp.Well (t : Sf.St) (name : ByteArray) (k : Nat) (F : List Nat) : Prop where
 dead : t.dead = false
 fuse : t.fuse = 0
 get : Sf.get t name = (k, 0)
 file : Sf.now (Sf.fileAt t k) = F
 room : Sf.used t ≤ t.room
 nums : (t.seen.map (·.2)).Nodup
def Pp.cost (s : Pp.S) (t : Sf.St) : Nat := max t.acts s.turns
theorem Pa.rising_len {l : List Pa.Page} : ∀ {lo hi : Nat}, Pa.Rising l → (∀ x ∈ l, lo ≤ x.n ∧ x.n < hi) → l.length ≤ hi - lo := by
 induction l with
 | nil => intros; simp
 | cons x l ih =>
  intro lo hi hr hx
  have h1 := List.pairwise_cons.1 hr
  have h0 := hx x (by simp)
  have h2 := ih (lo := x.n + 1) (hi := hi) h1.2 (fun y hy => ⟨h1.1 y hy, (hx y (by simp [hy])).2⟩)
  simp only [List.length_cons]
  omega
theorem Pa.Ok.few {m : Pa.M} (h : Pa.Ok m) : m.l.length ≤ 65536 := by
 have := Pa.rising_len (lo := 0) (hi := 65536) h.rise (fun x hx => ⟨Nat.zero_le _, (h.from2 x hx).2.1⟩)
 omega
theorem Pa.number_i64 {m : Pa.M} (h : Pa.Ok m) (a : Pa.Act) (ha : I64 a.n) : I64 (Pa.number m.l a) := by
 unfold Pa.number
 split
 ·exact ha
 ·rename_i hc
  have h0 : m.l ≠ [] := fun e => hc (.inr e)
  have hl : 0 < m.l.length := List.length_pos_iff.2 h0
  have hk : (Pa.placeOf a.n % (m.l.length : Int)).toNat < m.l.length := by
   have := Int.emod_lt_of_pos (Pa.placeOf a.n) (b := (m.l.length : Int)) (by omega)
   have := Int.emod_nonneg (Pa.placeOf a.n) (b := (m.l.length : Int)) (by omega)
   omega
  rw [List.getD_eq_getElem?_getD, List.getElem?_eq_getElem hk]
  have h2 := (h.from2 _ (List.getElem_mem hk)).2.1
  simp only [Option.getD_some]
  unfold I64
  omega
theorem Pp.But.get {k j : Nat} {t t' : Sf.St} {u : ByteArray} (h : Pp.But k t t') (hd : t.dead = t'.dead) (hg : Sf.get t u = (j, 0)) : Sf.get t' u = (j, 0) := by
 rw [← hg]
 unfold Sf.get
 rw [h.seen, hd]
theorem Pp.Goes.tn {s : Pp.S} {F : List Nat} {m : Pa.M} (n : Nat) (h : Pp.Goes s F m) : Pp.Goes { s with turns := n } F m := ⟨h.root, h.l, h.ok, h.size, h.page, h.less, h.told⟩
theorem Pp.Goes.keeps {s : Pp.S} {F F' : List Nat} {m : Pa.M} (h : Pp.Goes s F m) (hk : Pp.Keeps s F F') : Pp.Goes s F' m := by
 refine ⟨h.root, h.l, h.ok, by rw [hk.len]; exact h.size, fun x hx hs => ?_, h.less, by rw [hk.told]; exact h.told⟩
 obtain ⟨z, hz, e⟩ := Pp.mem_bare h.l hx
 have hzs : z.state ≠ 2 := by rw [← Pp.bare_state z, e, Pp.bare_state]; exact hs
 have hzn : z.n = x.n := by rw [← Pp.bare_n z, e, Pp.bare_n]
 have h1 := h.page x hx hs
 have h2 := hk.used z hz hzs
 rw [hzn] at h2
 unfold Pp.rdE at h1 ⊢
 rw [hk.len, h2]
 exact h1
theorem Pp.Com.goes {s s' : Pp.S} {F F' : List Nat} {t t' : Sf.St} {k x : Nat} {r : Rt.Root} {m : Pa.M} {free : Int} (h : Pp.Com s F t k r x s' F' t') (hg : Pp.Goes s F m) (hw : Pp.Well t s.name k F) (hf : free = (t.room : Int) - Sf.used t) :
  x = (Pa.commit m r free).2 ∧ Pp.Goes s' F' (Pa.commit m r free).1 ∧ Pp.Well t' s.name k F' ∧ s'.name = s.name ∧ s'.cache = s.cache ∧ t'.room = t.room ∧ Pp.cost s' t' ≤ Pp.cost s t + 200000 := by
 have he := Pp.commit_eq hg r free
 rw [hf] at he ⊢
 have hlt : Sf.len t k = F.length := by unfold Sf.len; rw [hw.file]
 cases h with
 | arg h1 =>
  rw [he.1] at h1
  exact ⟨h1.symm, by rw [Pp.commit_no (by rw [h1]; decide)]; exact hg, hw, rfl, rfl, rfl, by omega⟩
 | done F' t' tn h1 h2 h3 h4 h5 h6 h7 h8 =>
  have h9 := h1
  rw [he.1] at h1
  have hlen := h2.len
  rw [he.2] at h2
  have hu := Sf.used_set hw.get hw.nums h3.seen h5 (fun j hj => by unfold Sf.len; rw [h3.file j hj])
  have hl' : Sf.len t' k = F'.length := by unfold Sf.len; rw [h4]; rfl
  have hge : ¬ ((t.room : Int) - Sf.used t) < (Pa.sizeL F.length s.l : Int) - (F.length : Int) := fun hlt => by
   unfold Pa.commit at h9
   split at h9
   ·simp at h9
   ·rw [if_pos (show ((t.room : Int) - Sf.used t) < (Pa.sizeL (Pp.asM s F).size (Pp.asM s F).l : Int) - (Pp.asM s F).size from hlt)] at h9
    simp at h9
  have hw1 := hw.room
  refine ⟨h1.symm, by rw [he.2]; exact Pp.Goes.tn _ (Pp.Goes.commit hg h1 h2), ⟨h5, h6 hw.fuse, h3.get (by rw [hw.dead, h5]) hw.get, by rw [h4]; rfl, by rw [h3.room]; omega, by rw [h3.seen]; exact hw.nums⟩, rfl, rfl, h3.room, ?_⟩
  unfold Pp.cost
  simp only
  omega
 | full F' t' h1 h2 h3 hk h5 h6 h7 =>
  rw [he.1] at h1
  have hu := Sf.used_set hw.get hw.nums h2.seen h5 (fun j hj => by unfold Sf.len; rw [h2.file j hj])
  have hl' : Sf.len t' k = F'.length := by unfold Sf.len; rw [h3]
  have hkl := hk.len
  have hw1 := hw.room
  refine ⟨h1.symm, by rw [Pp.commit_no (by rw [h1]; decide)]; exact hg.keeps hk, ⟨h5, h6 hw.fuse, h2.get (by rw [hw.dead, h5]) hw.get, h3, by rw [h2.room]; omega, by rw [h2.seen]; exact hw.nums⟩, rfl, rfl, h2.room, ?_⟩
  unfold Pp.cost
  omega
 | dead e s' F' t' h1 h2 => exact absurd hw.fuse h2
end Go.Proofs.YtiafeniflkikeaaGreat
namespace Go.Proofs.YtiafeniflkikeaaGreat
open Go.RowKit
set_option linter.unusedVariables false
namespace Pp
def bareU (x : Pa.Page) : Pa.Page := ⟨x.n, 1, 0, []⟩
theorem ins_end {l : List Pa.Page} {n : Nat} (h : ∀ x ∈ l, x.n < n) : ins l n = l ++ [⟨n, 1, 0, []⟩] := by
 induction l with
 | nil => rfl
 | cons x l ih =>
  have hx := h x (by simp)
  have ih := ih (fun y hy => h y (by simp [hy]))
  unfold ins at ih ⊢
  rw [List.takeWhile_cons_of_pos (by simpa using hx), List.dropWhile_cons_of_pos (by simpa using hx), List.cons_append, ih, List.cons_append]
theorem use_next {l : List Pa.Page} (hr : Pa.Rising l) {k : Nat} {x : Pa.Page} (hx : l[k]? = some x) {s : S} (hs : s.l = (l.take k).map bareU) (h2 : 2 ≤ x.n) (hp : (x.n : Int) < s.root.pages) :
  useE s x.n = ({ s with l := (l.take (k + 1)).map bareU }, 0) := by
 have hlt : ∀ y ∈ s.l, y.n < x.n := by
  intro y hy
  rw [hs] at hy
  obtain ⟨z, hz, rfl⟩ := List.mem_map.1 hy
  obtain ⟨j, hj⟩ := List.getElem?_of_mem hz
  rw [List.getElem?_take] at hj
  split at hj
  ·have hjl := (List.getElem?_eq_some_iff.1 hj).1
   have hkl := (List.getElem?_eq_some_iff.1 hx).1
   have h3 := (List.pairwise_iff_getElem.1 hr) j k hjl hkl (by assumption)
   rw [List.getElem?_eq_getElem hjl] at hj
   rw [List.getElem?_eq_getElem hkl] at hx
   rw [Option.some.inj hj, Option.some.inj hx] at h3
   exact h3
  ·cases hj
 have hnone : Pa.find s.l x.n = none := by
  unfold Pa.find
  rw [Pa.idx_none (fun y hy => by have := hlt y hy; omega)]
  rfl
 unfold useE
 rw [if_neg (by omega), hnone]
 simp only [Int.toNat_natCast]
 rw [ins_end hlt, hs, take_snoc hx, List.map_append]
 rfl
theorem bare_back (l : List Pa.Page) : ((Pa.backL l).map bareU).map bare = (Pa.backL l).map bare := by
 rw [List.map_map]
 refine List.map_congr_left fun x hx => ?_
 unfold Pa.backL at hx
 obtain ⟨y, hy, rfl⟩ := List.mem_map.1 hx
 simp [Pa.used, bareU, bare]
end Pp
theorem results_pam {fn : Func} {p u1 u2 : Tmp} (h : fn.results = #[.tmp u1, .cell p 37, .tmp u2]) (tmps : Array Value) (w : World) (g : Nat) (c : Array Value) (x y : Value) (t : TypeId)
  (hp : tmps.getD p undef = .pointer (some ⟨g, 0, none⟩)) (hx : tmps.getD u1 undef = x) (hy : tmps.getD u2 undef = y) (hc : (Tryz.prog.info? 37).map (·.size) = some c.size) (hg : w.heap[g]? = some (.cells c t (0, 0))) :
  (results fn tmps).run Tryz.prog w = .ok (.tuple #[x, .agg c, y]) w := by
 have hp' : tmps[p]?.getD undef = .pointer (some ⟨g, 0, none⟩) := by simpa using hp
 have hx' : tmps[u1]?.getD undef = x := by simpa using hx
 have hy' : tmps[u2]?.getD undef = y := by simpa using hy
 simp [results, h, hp', hx', hy', asAddr, run_loadVar_row w g t _ _ (0, 0) _ hg Tryz.underlying37 rfl hc]
structure Pa.Good (s0 : Pp.S) (m : Pa.M) : Prop where
 root : s0.root = m.root
 rise : Pa.Rising (Pa.backL m.l)
 page : ∀ x ∈ Pa.backL m.l, 2 ≤ x.n ∧ (x.n : Int) < m.root.pages
def IsAgainG (R : Nat → Prop) (m : Pa.M) (t : Sf.St) (s0 : Pp.S) (bf : Nat) (w : World) (e : Ending) (w' : World) : Prop :=
 ∃ (v' : Value) (n : Nat), PaIs w' (fun q => R q ∨ (w.heap.size ≤ q ∧ q < n)) v' (Pa.back m) ∧ w.heap.size ≤ n ∧ n ≤ w'.heap.size ∧ Below w.heap.size w w' ∧
  ((¬ Pa.Good s0 m ∧ e = .returned (.tuple #[.pointer none, v', .bool false])) ∨
   ∃ (b : Nat) (f' : Fp) (s' : Pp.S), e = .returned (.tuple #[.pointer (some ⟨b, 0, none⟩), v', .bool true]) ∧ PPager w' f' s' (Sf.now (Sf.fileAt t (Sf.get t ⟨#[105]⟩).1)) b bf ∧ s'.root = s0.root ∧ s'.name = s0.name ∧ (s'.cache = s0.cache ∧ s'.turns = s0.turns) ∧ (Pa.Good s0 m → Pp.Is s' (Pa.back m)) ∧ f'.From n)
theorem Pp.useE_same (s : Pp.S) (n : Int) : (Pp.useE s n).1.root = s.root ∧ (Pp.useE s n).1.name = s.name ∧ ((Pp.useE s n).1.cache = s.cache ∧ (Pp.useE s n).1.turns = s.turns) := by
 unfold Pp.useE
 split
 ·exact ⟨rfl, rfl, rfl, rfl⟩
 ·split <;> exact ⟨rfl, rfl, rfl, rfl⟩
set_option maxHeartbeats 2000000 in
set_option maxRecDepth 100000 in
theorem pagain_gen {w : World} {fd : Fp} {t : Sf.St} {bf : Nat} (hD : PDisk w fd t bf) (R : Nat → Prop) (v : Value) (m : Pa.M) (cache : Int) (h : PaIs w R v m) (hR : ∀ k, R k → k < w.heap.size) (hl : m.l.length ≤ 1000000) (hcm : I64 cache)
  (s0 : Pp.S) (ho : Pp.openE t ⟨#[105]⟩ cache = (some s0, 0)) (hs0 : s0.l = []) :
  Calls Tryz.prog 12 #[.pointer (some ⟨bf, 0, none⟩), v, .int .i64 cache] w (IsAgainG R m t s0 bf w) := by
 have hz := (zero_of_info pa_zero).1
 have HV := Lib.hid h
 have hv9 : ∃ D : Array Value, v = .agg D ∧ D.size = 9 := by obtain ⟨A, c, e, _⟩ := h; exact ⟨_, e, rfl⟩
 obtain ⟨D, rfl, hDs⟩ := hv9
 obtain ⟨Z, hZ⟩ : ∃ Z, none9 = Z := ⟨_, rfl⟩
 have hzs : Z.size = 9 := by rw [← hZ]; rfl
 rw [hZ] at hz
 obtain ⟨W, hW⟩ : ∃ W, (w.alloc (.cells D 37)).alloc (.cells Z 37) = W := ⟨_, rfl⟩
 have HDT : Hid (Rw W w.heap.size 37 D) := by unfold Hid; rw [← hW]; exact (Rw.new w _ _).old _
 have HZT : Hid (Rw W (w.heap.size + 1) 37 Z) := by unfold Hid; rw [← hW]; exact Rw.at_ (by simp) _ _
 have hb : Below w.heap.size w W := by rw [← hW]; exact ((Below.refl _ _).alloc (Nat.le_refl _) _).alloc (by simp) _
 have hWs : W.heap.size = w.heap.size + 2 := by rw [← hW]; simp
 have HWS := Lib.hid hWs
 have HB := Lib.hid hb
 have HDw := Lib.hid hD
 have HD := Lib.hid (pdisk_law.below hD hb)
 have HL := Lib.hid hl
 have HRL := Lib.hid hR
 have hsz := pa_size
 have HSD : Hid ((Tryz.prog.info? 37).map (·.size) = some D.size) := by unfold Hid; rw [hDs]; exact hsz
 have HDS := Lib.hid hDs
 have HZS := Lib.hid hzs
 have HO := Lib.hid ho
 have HS0 := Lib.hid hs0
 have HCB := Lib.hid (rpaback_any R (.agg D) m W (HV.out.below_ hb) (fun k hk => Nat.lt_of_lt_of_le (hR k hk) hb.size) hl)
 clear hb hl hR hDs hzs ho hs0 hZ hsz h hWs
 go_enter Tryz.func12, Tryz.ntmps12
 go_wp2_with ((with_reducible refine gate_load 37 ?_); refine wpList_load_row rfl 37 _ rfl w.heap.size rfl 37 D (0, 0) _ HDT.out Tryz.underlying37 rfl HSD.out ?_)
 refine HCB.out.mono ?_
 rintro e w1 ⟨v1, rfl, hv1, b1⟩
 obtain ⟨A, c, rfl, hf, hs, hp⟩ := hv1
 have hsz := pa_size
 rw [← paC_size (Pa.back m).root A (Pa.back m).l.length c (Pa.back m).size] at hsz
 have hco := paC_one (Pa.back m).root A (Pa.back m).l.length c (Pa.back m).size
 have hdc : D.size = (paC (Pa.back m).root A (Pa.back m).l.length c (Pa.back m).size).size := by rw [HDS.out, paC_size]
 obtain ⟨C, hC⟩ : ∃ C, paC (Pa.back m).root A (Pa.back m).l.length c (Pa.back m).size = C := ⟨_, rfl⟩
 rw [hC] at hsz hco hdc ⊢
 have HD1 : Hid (Rw w1 w.heap.size 37 D) := HDT.out.below b1 (by have := HWS.out; omega)
 go_wp2_with ((with_reducible refine gate_store 37 ?_); refine wpList_store_row rfl 37 _ _ rfl w.heap.size C rfl rfl 37 D HD1.out hsz hdc hco ?_)
 generalize hXe : w1.setRow w.heap.size C = X
 have hbX : Below w.heap.size w X := by rw [← hXe]; exact below_setRow (HB.out.trans (b1.mono HB.out.size)) (Nat.le_refl _) _
 have hCX : Rw X w.heap.size 37 C := by rw [← hXe]; exact Rw.row HD1.out C
 have hZX : Rw X (w.heap.size + 1) 37 Z := by rw [← hXe]; exact (HZT.out.below b1 (by have := HWS.out; omega)).rowOther (by omega) _
 have hXs : X.heap.size = w1.heap.size := by rw [← hXe]; simp
 have hTX : Turned (fun q => q = w.heap.size) w1 X := by rw [← hXe]; exact (Turned.refl (fun q => q = w.heap.size) w1).setRow (fun _ => rfl) _
 have hpX : Pgs X (RX R W w1) (.slice A (Pa.back m).l.length c) (Pa.back m).l := hp.turned_ hTX (fun q hq hf => by
  rcases hq with hq | hq
  ·have := HRL.out q hq; omega
  ·have := HWS.out; omega)
 have HXS := Lib.hid hXs
 have HBX := Lib.hid hbX
 have HCX := Lib.hid hCX
 have HZX := Lib.hid hZX
 have HPX := Lib.hid hpX
 have HSZC := Lib.hid hsz
 have HCO := Lib.hid hco
 have HCC := Lib.hid hC
 have HFS : Hid (Rt.Fit (Pa.back m).root ∧ (Pa.back m).size < 1099511627776) := ⟨hf, hs⟩
 have HDX := Lib.hid (pdisk_law.below HDw.out hbX)
 have HOP := Lib.hid (ppopen_some ⟨#[105]⟩ cache HDX.out (by decide +kernel) hcm s0 HO.out)
 obtain ⟨F, hF⟩ : ∃ F, Sf.now (Sf.fileAt t (Sf.get t ⟨#[105]⟩).1) = F := ⟨_, rfl⟩
 rw [hF] at HOP
 have HBL : Hid ((Pa.back m).l = Pa.backL m.l) := rfl
 obtain ⟨l', hl'⟩ : ∃ l, (Pa.back m).l = l := ⟨_, rfl⟩
 rw [hl'] at HPX HBL
 have HLL : Hid (l'.length ≤ 1000000) := by unfold Hid; rw [HBL.out]; exact Nat.le_trans (Pa.backL_le _) HL.out
 have HCL : Hid (C[7]? = some (.slice A l'.length c)) := by unfold Hid; rw [← hC, ← hl']; rfl
 have HL' := Lib.hid hl'
 clear hbX hCX hZX hXs hTX hpX hp hf hs hsz hco hdc hC b1 HD1 HD HCB HDT HZT hXe hW hl'
 refine HOP.out.mono ?_
 rintro e w3 ⟨b3, b, f3, rfl, hP3, hfr3⟩
 have HP3 := Lib.hid hP3
 have HF3 := Lib.hid hfr3
 have HB3 := Lib.hid b3
 clear hP3 hfr3 b3 HOP
 go_wp2
 go_loopw [11] (fun i wr => ∃ (k : Nat) (fk : Fp) (sk : Pp.S), k ≤ l'.length ∧ i = .int .i64 k ∧ Hid (PPager wr fk sk F b bf) ∧ Hid (fk.From X.heap.size) ∧ Hid (sk.root = s0.root ∧ sk.name = s0.name ∧ (sk.cache = s0.cache ∧ sk.turns = s0.turns) ∧ (Pa.Good s0 m → sk = { s0 with l := (l'.take k).map Pp.bareU })) ∧ Hid (Below X.heap.size X wr)) (fun i _ => l'.length - (intOf i).toNat)
 case atStart => exact ⟨0, f3, s0, by omega, rfl, HP3.out, HF3.out, ⟨rfl, rfl, ⟨rfl, rfl⟩, fun _ => by have := HS0.out; cases s0; simp_all⟩, HB3.out⟩
 case round =>
  obtain ⟨k, fk, sk, hk, rfl, HPk, HFk, HSk, HBk⟩ := hrel
  have hw0 : w.heap.size < X.heap.size := HCX.out.lt
  have hCk : Rw wr w.heap.size 37 C := HCX.out.below HBk.out hw0
  have c7 : wr.cell? ⟨w.heap.size, 7, none⟩ = some (.slice A l'.length c) := (hCk.cell 7).trans HCL.out
  have hPk := HPX.out.below_ HBk.out
  have hlc : l'.length ≤ 9223372036854775807 := by have := HLL.out; omega
  by_cases hlt : k < l'.length
  ·obtain ⟨pb, off, x, q, hA, hbl, hRb, hxo, hq, ho, hm⟩ := hPk.at_ hlt
   subst hA
   have e0 : wr.cell? ⟨pb, off + k * 4, none⟩ = some (.int .i64 (x.n : Nat)) := hm 0 _ rfl
   have huse : Pa.Good s0 m → Pp.useE sk x.n = ({ s0 with l := (l'.take (k + 1)).map Pp.bareU }, 0) := fun g => by
    have e := HSk.out.2.2.2 g
    have hqp := g.page q (by rw [← HBL.out]; exact List.mem_of_getElem? hq)
    have h := Pp.use_next (l := l') (by rw [HBL.out]; exact g.rise) hq (s := sk) (by rw [e]) hqp.1 (by rw [e]; show _ < s0.root.pages; rw [g.root]; exact hqp.2)
    rw [ho.1] at h
    rw [h, e]
   have hus := Pp.useE_same sk (x.n : Int)
   have HU := Lib.hid (ppuse_any (x.n : Int) HPk.out (by have := hxo.1; unfold I64; omega))
   obtain ⟨⟨sn, en⟩, hen⟩ : ∃ r, Pp.useE sk (x.n : Int) = r := ⟨_, rfl⟩
   rw [hen] at HU hus huse
   simp only at hus
   have HSN : Hid (sn.root = s0.root ∧ sn.name = s0.name ∧ (sn.cache = s0.cache ∧ sn.turns = s0.turns) ∧ (Pa.Good s0 m → sn = { s0 with l := (l'.take (k + 1)).map Pp.bareU })) := ⟨hus.1.trans HSk.out.1, hus.2.1.trans HSk.out.2.1, ⟨hus.2.2.1.trans HSk.out.2.2.1.1, hus.2.2.2.trans HSk.out.2.2.1.2⟩, fun g => congrArg Prod.fst (huse g)⟩
   have HGE : Hid (Pa.Good s0 m → en = 0) := fun g => congrArg Prod.snd (huse g)
   clear hm ho hq hxo hRb hbl huse hus hen
   have hsame : True := trivial
   clear hPk hsame
   go_wp2_with fail
   refine HU.out.mono ?_
   rintro e w4 ⟨rfl, f4, hP4, hN4, hT4⟩
   have hb4 : Below X.heap.size wr w4 := hT4.below HBk.out.size (fun q hq => HFk.out q (.inl hq))
   have HP4 := Lib.hid hP4
   have HF4 := Lib.hid (hN4.from_ HFk.out HBk.out.size)
   have HB4 := Lib.hid (HBk.out.trans hb4)
   have hZ4 : Rw w4 (w.heap.size + 1) 37 Z := HZX.out.below HB4.out (by have := HZX.out.lt; omega)
   have hC4 : Rw w4 w.heap.size 37 C := HCX.out.below HB4.out hw0
   have HP4R := Lib.hid (HPX.out.below_ HB4.out)
   clear hP4 hN4 hT4 hb4 HU hCk
   by_cases hen0 : en = 0
   rotate_left
   ·have q0 : ((en : Int) != 0) = true := by rw [bne_iff_ne]; omega
    have HNG : Hid (¬ Pa.Good s0 m) := fun g => hen0 (HGE.out g)
    have HZK := Lib.hid hZ4
    have HCK := Lib.hid hC4
    have hzc : Z.size = C.size := by rw [HZS.out, ← HCC.out, paC_size]
    have HZCC := Lib.hid hzc
    clear hZ4 hC4 hen0 hzc
    go_wp2
    refine wp_region_m (fun w' => w' = w4.drew) 2 (by kernel_rfl) ?_
    have hS0 : w4.drew = w4.drew := rfl
    refine zM (i := 0) (v := .agg C) rfl (by kernel_rfl) (fun _ _ _ h => h) hS0 (Or.inl ⟨by rfl, fun w' hSw => exec_load_row _ _ rfl w.heap.size rfl 37 C (0, 0) _ w' (by rw [hSw]; exact HCK.out) Tryz.underlying37 rfl HSZC.out⟩) ?_
    try simp only [Act.put, zA, zC, zD, zE, zF]
    refine zM (i := 1) (v := ?_) rfl (by kernel_rfl) (fun _ _ _ h => h) hS0 (Or.inl ⟨by rfl, (by intro w' hSw; go_simp; first | done | with_reducible rfl)⟩) ?_
    try simp only [Act.put, zA, zB, zC, zD, zE, zF]
    refine wpAnyM_next (i := 2) (by kernel_rfl) rfl (fun K hK => ?_)
    rw [if_pos (by rfl)]
    refine wp_store_row 37 (.tmp 7) (.tmp 39) rfl (w.heap.size + 1) C rfl rfl 37 Z HZK.out HSZC.out HZCC.out HCO.out ?_
    refine hK.out _ _ (.inl (Nat.le_refl _)) ?_
    clear hK K
    try simp only [Act.put, zA, zB, zC]
    refine wpAnyM_next (i := 3) (by kernel_rfl) rfl (fun K hK => ?_)
    go_simp
    refine hK.out _ _ (.inl (by omega)) ?_
    clear hK K
    try simp only [Act.put, zA, zB, zC, zD, zE, zF]
    refine wpAnyM_done (by kernel_rfl) ?_ _
    have HT5 : Hid (Turned (fun q => q = w.heap.size + 1) w4 (w4.drew.setRow (w.heap.size + 1) C)) := ((Turned.refl (fun q => q = w.heap.size + 1) w4).drew).setRow (fun _ => rfl) _
    have HR5 : Hid (Rw (w4.drew.setRow (w.heap.size + 1) C) (w.heap.size + 1) 37 C) := Rw.row HZK.out C
    have HB5 : Hid (Below w.heap.size w (w4.drew.setRow (w.heap.size + 1) C)) := below_setRow ((HBX.out.trans (HB4.out.mono HBX.out.size)).drew) (by omega) _
    generalize w4.drew.setRow (w.heap.size + 1) C = w5 at *
    go_wp2
    have hz1 : w.heap.size + 1 < X.heap.size := HZX.out.lt
    refine bodyPost_ret (v := .tuple #[.pointer none, .agg C, .bool false]) (results_pam rfl _ _ (w.heap.size + 1) C _ _ _ rfl rfl rfl HSZC.out HR5.out) rfl ⟨_, X.heap.size, ⟨_, c, by rw [← HCC.out], HFS.out.1, HFS.out.2, ?_⟩, by omega, Nat.le_trans HB4.out.size HT5.out.size, HB5.out, .inl ⟨HNG.out, rfl⟩⟩
    rw [HL'.out]
    refine (HP4R.out.turned_ HT5.out (fun q hq hf => ?_)).more_ (fun q hq => ?_)
    ·rcases hq with hq | hq
     ·have := HRL.out q hq; omega
     ·have := HWS.out; omega
    ·rcases hq with hq | hq
     ·exact .inl hq
     ·have h3 := HXS.out
      have h4 := HWS.out
      exact .inr ⟨by omega, by omega⟩
   subst hen0
   clear hZ4 hC4 HP4R
   go_wp2
   go_roundw
   case rel => exact ⟨k + 1, f4, _, by omega, by go_num, HP4.out, HF4.out, HSN.out, HB4.out⟩
   case measure => simp [intOf]; omega
  ·have h0 : k = l'.length := by omega
   subst h0
   have hZk : Rw wr (w.heap.size + 1) 37 Z := HZX.out.below HBk.out (by have := HZX.out.lt; omega)
   have hzc : Z.size = C.size := by rw [HZS.out, ← HCC.out, paC_size]
   have HZK := Lib.hid hZk
   have HCK := Lib.hid hCk
   have hPR := HPX.out.below_ HBk.out
   have HPR := Lib.hid hPR
   have HZCC := Lib.hid hzc
   clear hPk hZk hCk hzc hPR
   go_wp2
   refine wp_region_m (fun w' => w' = wr.drew) 3 (by kernel_rfl) ?_
   have hS0 : wr.drew = wr.drew := rfl
   refine zM (i := 0) (v := ?_) rfl (by kernel_rfl) (fun _ _ _ h => h) hS0 (Or.inl ⟨by rfl, (by intro w' hSw; go_simp; first | done | with_reducible rfl)⟩) ?_
   try simp only [Act.put, zA, zC, zD, zE, zF]
   refine zM (i := 1) (v := .agg C) rfl (by kernel_rfl) (fun _ _ _ h => h) hS0 (Or.inl ⟨by rfl, fun w' hSw => exec_load_row _ _ rfl w.heap.size rfl 37 C (0, 0) _ w' (by rw [hSw]; exact HCK.out) Tryz.underlying37 rfl HSZC.out⟩) ?_
   try simp only [Act.put, zA, zB, zC, zD, zE, zF]
   refine zM (i := 2) (v := ?_) rfl (by kernel_rfl) (fun _ _ _ h => h) hS0 (Or.inl ⟨by rfl, (by intro w' hSw; go_simp; first | done | with_reducible rfl)⟩) ?_
   try simp only [Act.put, zA, zB, zC, zD, zE, zF]
   refine wpAnyM_next (i := 3) (by kernel_rfl) rfl (fun K hK => ?_)
   rw [if_pos (by rfl)]
   refine wp_store_row 37 (.tmp 7) (.tmp 41) rfl (w.heap.size + 1) C rfl rfl 37 Z HZK.out HSZC.out HZCC.out HCO.out ?_
   refine hK.out _ _ (.inl (Nat.le_refl _)) ?_
   clear hK K
   try simp only [Act.put, zA, zB, zC]
   refine wpAnyM_next (i := 4) (by kernel_rfl) rfl (fun K hK => ?_)
   go_simp
   refine hK.out _ _ (.inl (by omega)) ?_
   clear hK K
   try simp only [Act.put, zA, zB, zC, zD, zE, zF]
   refine wpAnyM_done (by kernel_rfl) ?_ _
   have hE5 : Below X.heap.size X (wr.drew.setRow (w.heap.size + 1) C) → True := fun _ => trivial
   have HT5 : Hid (Turned (fun q => q = w.heap.size + 1) wr (wr.drew.setRow (w.heap.size + 1) C)) := ((Turned.refl (fun q => q = w.heap.size + 1) wr).drew).setRow (fun _ => rfl) _
   have HR5 : Hid (Rw (wr.drew.setRow (w.heap.size + 1) C) (w.heap.size + 1) 37 C) := Rw.row HZK.out C
   have HB5 : Hid (Below w.heap.size w (wr.drew.setRow (w.heap.size + 1) C)) := below_setRow ((HBX.out.trans (HBk.out.mono HBX.out.size)).drew) (by omega) _
   generalize wr.drew.setRow (w.heap.size + 1) C = w5 at *
   go_wp2
   have hz1 : w.heap.size + 1 < X.heap.size := HZX.out.lt
   refine bodyPost_ret (v := .tuple #[.pointer (some ⟨b, 0, none⟩), .agg C, .bool true]) (results_pam rfl _ _ (w.heap.size + 1) C _ _ _ rfl rfl rfl HSZC.out HR5.out) rfl ⟨_, X.heap.size, ⟨A, c, by rw [← HCC.out], HFS.out.1, HFS.out.2, ?_⟩, by omega, Nat.le_trans HBk.out.size HT5.out.size, HB5.out, .inr ⟨b, fk, sk, rfl, ?_, HSk.out.1, HSk.out.2.1, HSk.out.2.2.1, fun g => ⟨?_, ?_⟩, HFk.out⟩⟩
   ·rw [HL'.out]
    refine (HPR.out.turned_ HT5.out (fun q hq hf => ?_)).more_ (fun q hq => ?_)
    ·rcases hq with hq | hq
     ·have := HRL.out q hq; omega
     ·have := HWS.out; omega
    ·rcases hq with hq | hq
     ·exact .inl hq
     ·have h1 := HBk.out.size
      have h2 := HT5.out.size
      have h3 := HXS.out
      have h4 := HWS.out
      exact .inr ⟨by omega, by omega⟩
   ·rw [hF]
    exact ppager_turned HPk.out HT5.out (fun q hq => ⟨fun hm => by have := HFk.out q (.inl hm); omega, fun hm => by have := HFk.out q (.inr hm); omega⟩)
   ·rw [HSk.out.1]; exact g.root
   ·rw [HSk.out.2.2.2 g, List.take_length, HL'.out, HBL.out]; exact Pp.bare_back m.l
end Go.Proofs.YtiafeniflkikeaaGreat
namespace Go.Proofs.YtiafeniflkikeaaGreat.Pp
set_option linter.unusedVariables false
theorem may_new : Rt.May Pa.new.root := by unfold Rt.May Pa.new; decide +kernel
theorem told_made : told made = (Pa.new.root, 0) := by
 obtain ⟨P, h1, h2, h3⟩ := Rt.put_page may_new
 have e1 : ((Pa.new.root.seq % 2 : Nat) : Int) = 1 := rfl
 rw [e1] at h1 h3
 have hp : P = Pg.page 1 1 (Rt.bys (Rt.nums Pa.new.root)) := (Pg.getE_put h1).2.1
 have hl : P.length = 512 := (Rt.page_len h2).1
 have hm : made = List.replicate 512 0 ++ P := by rw [hp]; rfl
 unfold told
 have hz : (List.replicate 512 0 : List Nat).length = 512 := List.length_replicate
 obtain ⟨Q, hQ⟩ : ∃ Q : List Nat, List.replicate 512 0 = Q := ⟨_, rfl⟩
 rw [hQ] at hm hz
 have ht : made.take 512 = Q := by rw [hm, List.take_append_of_le_length (by omega), List.take_of_length_le (by omega)]
 have hd : (made.drop 512).take 512 = P := by rw [hm, List.drop_append_of_le_length (by omega), List.drop_of_length_le (by omega), List.nil_append, List.take_of_length_le (by omega)]
 subst hQ
 rw [ht, hd]
 have h0 : (Pg.getE 0 (List.replicate 512 0)).2.2 ≠ 0 := by
  exact Pg.noughts 0
 have h4 : (Rt.getE 0 (List.replicate 512 0)).2 ≠ 0 := by
  obtain ⟨⟨k, c, e⟩, hg⟩ : ∃ x, Pg.getE 0 (List.replicate 512 0) = x := ⟨_, rfl⟩
  rw [hg] at h0
  rw [Rt.getE_page (by omega) hg h0]
  exact h0
 unfold Rt.pickE
 rw [if_neg (by rw [h3]; intro h; exact h.2 rfl), if_neg (by intro h; exact h4 h.1), h3]
theorem made_len : made.length = 1024 := by
 obtain ⟨P, h1, h2, h3⟩ := Rt.put_page may_new
 have e1 : ((Pa.new.root.seq % 2 : Nat) : Int) = 1 := rfl
 rw [e1] at h1
 have hp : P = Pg.page 1 1 (Rt.bys (Rt.nums Pa.new.root)) := (Pg.getE_put h1).2.1
 have hl : P.length = 512 := (Rt.page_len h2).1
 show (List.replicate 512 0 ++ Pg.page 1 1 (Rt.bys (Rt.nums Pa.new.root))).length = 1024
 rw [List.length_append, ← hp, hl, List.length_replicate]
theorem goes_new (name : ByteArray) (cache : Nat) : Goes ⟨name, Pa.new.root, cache, [], 0⟩ made Pa.new :=
 ⟨rfl, rfl, ⟨may_new, List.Pairwise.nil, (fun x hx => absurd hx List.not_mem_nil)⟩, made_len.symm, (fun x hx => absurd hx List.not_mem_nil), (fun x hx => absurd hx List.not_mem_nil), told_made⟩
theorem open_made {t : Sf.St} {name : ByteArray} {k : Nat} (hg : Sf.get t name = (k, 0)) (hf : Sf.now (Sf.fileAt t k) = made) (cache : Int) (h0 : 0 ≤ cache) (h1 : cache ≤ 256) :
  openE t name cache = (some ⟨name, Pa.new.root, cache.toNat, [], 0⟩, 0) := by
 unfold openE
 rw [if_neg (by omega), hg, if_neg (by simp), hf, if_neg (by rw [made_len]; omega), told_made, if_neg (by simp)]
theorem open_turns {t : Sf.St} {name : ByteArray} {cache : Int} {s : S} {e : Nat} (h : openE t name cache = (some s, e)) : s.turns = 0 := by
 unfold openE at h
 repeat' split at h
 all_goals first
  | (cases (Prod.mk.inj h).1; done)
  | (have h := Option.some.inj (Prod.mk.inj h).1; rw [← h])
end Go.Proofs.YtiafeniflkikeaaGreat.Pp
namespace Go.Proofs.YtiafeniflkikeaaGreat
open Go.RowKit
set_option linter.unusedVariables false
theorem take_eq_succ {la lb : List Nat} {k a b : Nat} (h : la.take k = lb.take k) (ha : la.drop k = a :: la.drop (k + 1)) (hb : lb.drop k = b :: lb.drop (k + 1)) : (la.take (k + 1) = lb.take (k + 1)) ↔ a = b := by
 have h1 : la.take (k + 1) = la.take k ++ [a] := by
  have := List.take_add (l := la) (i := k) (j := 1)
  rw [this, ha]; rfl
 have h2 : lb.take (k + 1) = lb.take k ++ [b] := by
  have := List.take_add (l := lb) (i := k) (j := 1)
  rw [this, hb]; rfl
 rw [h1, h2, h]
 simp
theorem take_ne {la lb : List Nat} {k : Nat} (h : la.take k ≠ lb.take k) : la ≠ lb := fun e => h (by rw [e])
set_option maxHeartbeats 400000 in
theorem same_ne (A A' : Option Addr) (la lb : List Nat) (c c' : Nat) (w : World) (hlen : la.length ≤ maxLen) (hlen' : lb.length ≤ maxLen) (hne : la.length ≠ lb.length) :
  Calls Tryz.prog 40 #[.slice A la.length c, .slice A' lb.length c'] w (IsBool false w) := by
 unfold maxLen at hlen hlen'
 have hq : (((la.length : Nat) : Int) != ((lb.length : Nat) : Int)) = true := by rw [bne_iff_ne]; omega
 go_enter Tryz.func40, Tryz.ntmps40
 go_wp2
 go_ret
 exact ⟨rfl, Below.refl _ _⟩
set_option maxHeartbeats 400000 in
theorem same_eq (A A' : Option Addr) (la lb : List Nat) (c c' B B' : Nat) (w : World) (ha : Bts w B A la) (hb : Bts w B' A' lb) (hlen : la.length ≤ maxLen) (heq : la.length = lb.length) :
  Calls Tryz.prog 40 #[.slice A la.length c, .slice A' lb.length c'] w (IsBool (decide (la = lb)) w) := by
 unfold maxLen at hlen
 have hq : (((la.length : Nat) : Int) != ((lb.length : Nat) : Int)) = false := by rw [heq]; simp
 have HE := Lib.hid heq
 have hle : la.length ≤ lb.length := by omega
 have hge : lb.length ≤ la.length := by omega
 clear heq
 go_enter Tryz.func40, Tryz.ntmps40
 go_wp2
 go_loopw [5] (fun i wr => ∃ k : Nat, k ≤ la.length ∧ i = .int .i64 k ∧ Hid (la.take k = lb.take k) ∧ Below w.heap.size w wr ∧ Hid (Bts wr B A la) ∧ Hid (Bts wr B' A' lb)) (fun i _ => la.length - (intOf i).toNat)
 case atStart => exact ⟨0, by omega, rfl, by simp [Hid], Below.refl _ _, ha, hb⟩
 case round =>
  obtain ⟨k, hk, rfl, HT, hbel, HA, HB⟩ := hrel
  by_cases hlt : k < la.length
  ·obtain ⟨b1, o1, x, rfl, hb1, hx, hd, hcell⟩ := HA.out.at_ hlt
   obtain ⟨b2, o2, y, rfl, hb2, hy, hd', hcell'⟩ := HB.out.at_ (k := k) (by omega)
   have HS := Lib.hid (take_eq_succ HT.out hd hd')
   clear hd hd' ha hb
   have hlt' : k < lb.length := by omega
   by_cases hxy : x = y
   ·subst hxy
    have hq2 : ((x : Int) != (x : Int)) = false := by simp
    go_wp2
    go_quiet (fail)
    go_wp2
    go_roundw
    case rel => exact ⟨k + 1, by omega, by go_num, HS.out.2 (by simp), below_drewN hbel _, HA.out, HB.out⟩
    case measure => simp [intOf]; omega
   ·have hq2 : ((x : Int) != (y : Int)) = true := by rw [bne_iff_ne]; omega
    go_wp2
    go_quiet (fail)
    go_wp2
    go_ret
    have hne : la ≠ lb := take_ne (fun e => hxy (HS.out.1 e))
    exact ⟨by simp [hne], below_drewN hbel _⟩
  ·go_wp2
   go_ret
   have h0 : k = la.length := by omega
   have h1 : la = lb := by
    have := HT.out
    rw [List.take_of_length_le (by omega), List.take_of_length_le (by omega)] at this
    exact this
   exact ⟨by simp [h1], hbel⟩
theorem same_any (A A' : Option Addr) (la lb : List Nat) (c c' B B' : Nat) (w : World) (ha : Bts w B A la) (hb : Bts w B' A' lb) (hlen : la.length ≤ maxLen) (hlen' : lb.length ≤ maxLen) :
  Calls Tryz.prog 40 #[.slice A la.length c, .slice A' lb.length c'] w (IsBool (decide (la = lb)) w) := by
 by_cases h : la.length = lb.length
 ·exact same_eq A A' la lb c c' B B' w ha hb hlen h
 ·have hne : la ≠ lb := fun e => h (by rw [e])
  have := same_ne A A' la lb c c' w hlen hlen' h
  simpa [hne] using this
end Go.Proofs.YtiafeniflkikeaaGreat
