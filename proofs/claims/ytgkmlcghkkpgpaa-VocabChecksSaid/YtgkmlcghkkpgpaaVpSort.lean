/-
  The joins of a vocabulary are sorted by their ranks: slices.SortFunc with the closure of vocab.Joins.
-/
import Derived.Test.YtgkmlcghkkpgpaaVpSortLay
import Derived.Test.YtgkmlcghkkpgpaaVpCheck
import Derived.Test.YtgkmlcghkkpgpaaVoStay
namespace Go.Proofs.Ytgkmlcghkkpgpaa
open Go.RowKit
set_option linter.unusedVariables false

namespace Vo
/-- The tokens below k that are joins. -/
def joinsRaw (P : List Pc) : Nat → List Int
  | 0 => []
  | k + 1 => match P[k]? with
    | some q => if q.join = true then joinsRaw P k ++ [(k : Int)] else joinsRaw P k
    | none => joinsRaw P k
theorem joinsRaw_byte {P : List Pc} {k : Nat} {q : Pc} (h : P[k]? = some q) (hj : q.join = false) : joinsRaw P (k + 1) = joinsRaw P k := by
  rw [joinsRaw, h]; simp [hj]
theorem joinsRaw_join {P : List Pc} {k : Nat} {q : Pc} (h : P[k]? = some q) (hj : q.join = true) : joinsRaw P (k + 1) = joinsRaw P k ++ [(k : Int)] := by
  rw [joinsRaw, h]; simp [hj]
theorem joinsRaw_perm (P : List Pc) (k : Nat) : (joinsRaw P k).Perm (joinsTo P k) := by
  induction k with
  | zero => exact List.Perm.refl _
  | succ k ih =>
    cases hp : P[k]? with
    | none => rw [joinsRaw, joinsTo, hp]; exact ih
    | some q =>
      cases hj : q.join with
      | false => rw [joinsRaw_byte hp hj, joinsTo_byte hp hj]; exact ih
      | true =>
        rw [joinsRaw_join hp hj, joinsTo_join hp hj]
        refine (ih.append_right _).trans ?_
        have e := List.take_append_drop (place P (joinsTo P k) q.rank) (joinsTo P k)
        calc joinsTo P k ++ [(k : Int)] = (joinsTo P k).take (place P (joinsTo P k) q.rank) ++ ((joinsTo P k).drop (place P (joinsTo P k) q.rank) ++ [(k : Int)]) := by rw [← List.append_assoc, e]
          _ |>.Perm ((joinsTo P k).take (place P (joinsTo P k) q.rank) ++ ([(k : Int)] ++ (joinsTo P k).drop (place P (joinsTo P k) q.rank))) := (List.perm_append_comm).append_left _
          _ = _ := by rw [List.append_assoc]
theorem joinsRaw_len (P : List Pc) (k : Nat) : (joinsRaw P k).length ≤ k := by rw [(joinsRaw_perm P k).length_eq]; exact joinsTo_len P k
theorem joinsRaw_mem {P : List Pc} {k : Nat} {t : Int} (h : t ∈ joinsRaw P k) : ∃ T : Nat, t = (T : Int) ∧ T < P.length := by
  obtain ⟨T, q, h1, _, h3, _⟩ := joinsTo_mem ((joinsRaw_perm P k).mem_iff.1 h)
  exact ⟨T, h1, (List.getElem?_eq_some_iff.1 h3).1⟩
theorem rising_one {P : List Pc} {l : List Int} (h : Rising P l) {a b : Int} (ha : a ∈ l) (hb : b ∈ l) (e : rankAt P a = rankAt P b) : a = b := by
  induction l with
  | nil => cases ha
  | cons x r ih =>
    obtain ⟨h1, h2⟩ := List.pairwise_cons.1 h
    rcases List.mem_cons.1 ha with ea | ha2
    · rcases List.mem_cons.1 hb with eb | hb2
      · rw [ea, eb]
      · have := h1 b hb2; rw [← ea] at this; omega
    · rcases List.mem_cons.1 hb with eb | hb2
      · have := h1 a ha2; rw [← eb] at this; omega
      · exact ih h2 ha2 hb2
theorem joins_sorted {P : List Pc} (hg : Good P) {l : List Int} (hp : l.Perm (joinsRaw P P.length)) (hs : l.Pairwise (fun a b => rankAt P a ≤ rankAt P b)) : l = joinsTo P P.length := by
  have hp2 := hp.trans (joinsRaw_perm P P.length)
  have hr := rising_joins hg (Nat.le_refl _)
  refine List.Perm.eq_of_pairwise (le := fun a b => rankAt P a ≤ rankAt P b) (fun a b ha hb h1 h2 => rising_one hr (hp2.mem_iff.1 ha) hb (by omega)) hs ?_ hp2
  exact List.Pairwise.imp (fun h => Nat.le_of_lt h) hr
end Vo

theorem pcompare_any (a b : Nat) (w : World) : Calls Try.prog 49 #[.int .u32 (a : Nat), .int .u32 (b : Nat)] w (fun e w' => e = .returned (.int .i64 (Lib.compareInt (a : Int) (b : Int))) ∧ w' = w) := by
  have n1 : ((a : Int) != (a : Int)) = false := by simp
  have n2 : ((b : Int) != (b : Int)) = false := by simp
  by_cases h1 : (a : Int) < (b : Int)
  · have HX : Hid (Lib.compareInt (a : Int) (b : Int) = -1) := by unfold Hid Lib.compareInt; rw [if_pos h1]
    go_enter Try.func49, Try.ntmps49
    go_wp2
    go_ret
    exact ⟨by rw [HX.out]; rfl, rfl⟩
  · by_cases h2 : (b : Int) < (a : Int)
    · have HX : Hid (Lib.compareInt (a : Int) (b : Int) = 1) := by unfold Hid Lib.compareInt; rw [if_neg h1, if_pos h2]
      go_enter Try.func49, Try.ntmps49
      go_wp2
      go_ret
      exact ⟨by rw [HX.out]; rfl, rfl⟩
    · have HX : Hid (Lib.compareInt (a : Int) (b : Int) = 0) := by unfold Hid Lib.compareInt; rw [if_neg h1, if_neg h2]
      go_enter Try.func49, Try.ntmps49
      go_wp2
      go_ret
      exact ⟨by rw [HX.out]; rfl, rfl⟩

/-- How two tokens are held against each other. -/
def cmpR (P : List Vo.Pc) (x y : Nat) : Int := Lib.compareInt (Vo.rankAt P (x : Int) : Nat) (Vo.rankAt P (y : Int) : Nat)

set_option maxHeartbeats 2000000 in
theorem pjoin1_any (P : List Vo.Pc) (v : Value) (B bx x y : Nat) (w : World) (hx : x < P.length) (hy : y < P.length) (hv : Lv pK w B v P) (hb : w.cell? ⟨bx, 0, none⟩ = some v) :
    Calls Try.prog 48 #[.int .i64 (x : Nat), .int .i64 (y : Nat), .pointer (some ⟨bx, 0, none⟩)] w (fun e w' => e = .returned (.int .i64 (cmpR P x y)) ∧ ∃ q, w' = w.drewN q) := by
  obtain ⟨A, c, rfl, _, _, _, _⟩ := id hv
  obtain ⟨b, off, p, rfl, _, hp, hpe, _, _, _, _, p4⟩ := hv.piece_ hx
  obtain ⟨b2, off2, q, e2, _, hq, hqe, _, _, _, _, q4⟩ := hv.piece_ hy
  obtain ⟨rfl, rfl⟩ : b2 = b ∧ off2 = off := by injection e2 with e2; injection e2 with e3 e4; exact ⟨e3.symm, e4.symm⟩
  have hxi : (x : Int) < (P.length : Int) := by omega
  have hyi : (y : Int) < (P.length : Int) := by omega
  have HX : Hid (cmpR P x y = Lib.compareInt (p.rank : Int) (q.rank : Int)) := by unfold Hid cmpR; rw [Vo.rankAt_of hpe, Vo.rankAt_of hqe]
  have HC : Hid (∀ m, Calls Try.prog 49 #[.int .u32 (p.rank : Nat), .int .u32 (q.rank : Nat)] (w.drewN m) (fun e w' => e = .returned (.int .i64 (Lib.compareInt (p.rank : Int) (q.rank : Int))) ∧ w' = w.drewN m)) := fun m => pcompare_any _ _ _
  obtain ⟨r, hr⟩ : ∃ r, Lib.compareInt (p.rank : Int) (q.rank : Int) = r := ⟨_, rfl⟩
  rw [hr] at HX HC
  rw [HX.out]
  obtain ⟨pr, hpr⟩ : ∃ n, p.rank = n := ⟨_, rfl⟩
  obtain ⟨qr, hqr⟩ : ∃ n, q.rank = n := ⟨_, rfl⟩
  rw [hpr] at p4 HC
  rw [hqr] at q4 HC
  clear hv hr hpr hqr hpe hqe e2 hp hq HX
  go_enter Try.func48, Try.ntmps48
  go_wp2
  go_quiet ((with_reducible exact Calls.quiet_of_same (HC.out _)))
  go_wp2
  go_ret
  exact ⟨rfl, _, rfl⟩

section
variable {α : Type} [Inhabited α]
open Go.Sort
theorem heap_srt (en : α → Value) {w : World} {g n : Nat} {os : Array Obj} {cur : Array Value} {e : TypeId} {fr : Nat × Nat} (d : Array α) (hb : w.heap[g]? = some (.cells cur e fr)) :
    (sortWorld en w g 0 n d os).heap[g]? = some (.cells (putCells en 0 d cur) e fr) := by
  have hg : g < w.heap.size := (Array.getElem?_eq_some_iff.1 hb).1
  unfold sortWorld
  rw [heap_grow_old _ _ (by simpa using hg)]
  simp [putRow, mapBlock, Sort.ahead, Array.getElem?_modify, hb, onCells]
theorem grown_srt (en : α → Value) {w : World} {g n : Nat} {os : Array Obj} (d : Array α) : w.grownBy (sortWorld en w g 0 n d os) (some g) := by
  unfold sortWorld
  refine ⟨rfl, rfl, rfl, by simp, fun k hk hne => ?_⟩
  rw [heap_grow_old _ _ (by simpa using hk)]
  have : g ≠ k := fun e => hne (by rw [e])
  simp [putRow, mapBlock, Sort.ahead, Array.getElem?_modify, this]
end
theorem flat_ints (l : List Int) : iK.flat l = l.map (Value.int .i64) := by
  induction l with
  | nil => rfl
  | cons x r ih => rw [flat_cons, ih]; rfl
/-- Tokens as places of P. -/
def finI {n : Nat} (x : Fin n) : Int := (x.val : Int)
theorem fin_list {n : Nat} : ∀ {l : List Int}, (∀ t ∈ l, ∃ T : Nat, t = (T : Int) ∧ T < n) → ∃ d : List (Fin n), d.map finI = l
  | [], _ => ⟨[], rfl⟩
  | t :: r, h => by
    obtain ⟨T, rfl, hT⟩ := h t (by simp)
    obtain ⟨d, hd⟩ := fin_list (l := r) (fun x hx => h x (by simp [hx]))
    exact ⟨⟨T, hT⟩ :: d, by rw [List.map_cons, hd]; rfl⟩
theorem put_ints {n : Nat} [Inhabited (Fin n)] (d d' : List (Fin n)) (s : List Int) (hl : d'.length = d.length) :
    Sort.putCells (fun x : Fin n => Value.int .i64 (finI x)) 0 d'.toArray (iK.flat (d.map finI ++ s)).toArray = (iK.flat (d'.map finI ++ s)).toArray := by
  apply Array.ext_getElem?
  intro k
  rw [flat_ints, flat_ints]
  simp only [Sort.putCells, Array.getElem?_mapIdx, List.getElem?_toArray, List.size_toArray, Nat.zero_add, Nat.zero_le, true_and, Nat.sub_zero, List.map_append, List.getElem?_append, List.length_map, hl]
  by_cases hk : k < d.length
  · simp [hk, hl]
  · simp [hk]
    rfl
theorem rank_lt (P : List Vo.Pc) {n : Nat} (x y : Fin n) : Go.Proofs.ltOf (fun x y : Fin n => cmpR P x.val y.val) x y = decide (Vo.rankAt P (x.val : Int) < Vo.rankAt P (y.val : Int)) := by
  show decide (cmpR P x.val y.val < 0) = _
  unfold cmpR Lib.compareInt
  rw [Bool.eq_iff_iff, decide_eq_true_eq, decide_eq_true_eq]
  split
  · omega
  · split <;> omega
theorem rank_swo (P : List Vo.Pc) {n : Nat} : Go.Sort.SWO (Go.Proofs.ltOf (fun x y : Fin n => cmpR P x.val y.val)) :=
  ⟨fun x => by rw [rank_lt]; simp, fun x y z h1 h2 => by rw [rank_lt] at *; simp at *; omega, fun x y z h1 h2 => by rw [rank_lt] at *; simp at *; omega⟩

set_option maxHeartbeats 2000000 in
theorem psort_any (P : List Vo.Pc) (v : Value) (B bx base c : Nat) (A : Option Addr) (l : List Int) (w : World) (hv : Lv pK w B v P) (hB : B ≤ base) (hbx : bx < base) (hb : w.cell? ⟨bx, 0, none⟩ = some v) (hbase : base ≤ w.heap.size)
    (ho : OwnL iK w base (.slice A l.length c) l) (hl : ∀ t ∈ l, ∃ T : Nat, t = (T : Int) ∧ T < P.length) (h63 : l.length ≤ 4096) :
    Calls Try.prog 47 #[.slice A l.length c, .func (.func 48) #[] #[.pointer (some ⟨bx, 0, none⟩)]] w
      (fun e w' => e = .returned (.tuple #[]) ∧ ∃ l' : List Int, l'.length = l.length ∧ l'.Perm l ∧ l'.Pairwise (fun a b => Vo.rankAt P a ≤ Vo.rankAt P b) ∧ OwnL iK w' base (.slice A l.length c) l' ∧ Below base w w') := by
  have hnone : l = [] → Calls Try.prog 47 #[.slice A l.length c, .func (.func 48) #[] #[.pointer (some ⟨bx, 0, none⟩)]] w
      (fun e w' => e = .returned (.tuple #[]) ∧ ∃ l' : List Int, l'.length = l.length ∧ l'.Perm l ∧ l'.Pairwise (fun a b => Vo.rankAt P a ≤ Vo.rankAt P b) ∧ OwnL iK w' base (.slice A l.length c) l' ∧ Below base w w') := fun e => by
    subst e
    have h := AnyF.slices_SortFunc_none { sortI with } A c (.func (.func 48) #[] #[.pointer (some ⟨bx, 0, none⟩)]) w
    exact h.mono fun e w' ⟨h1, h2⟩ => ⟨h1, [], rfl, List.Perm.refl _, List.Pairwise.nil, by rw [h2]; exact ho, by rw [h2]; exact Below.refl _ _⟩
  rcases ho.2 with ⟨_, e⟩ | ⟨g, s, e, hg, hs, hm, hh⟩
  · exact hnone e
  · by_cases hne : l = []
    · exact hnone hne
    injection e with e1 e2 e3
    subst e1 e3
    obtain ⟨dl, hdl⟩ := fin_list hl
    have hP : 0 < P.length := by
      obtain ⟨t, r, rfl⟩ := List.exists_cons_of_ne_nil hne
      obtain ⟨T, _, hT⟩ := hl t (by simp)
      omega
    haveI : Inhabited (Fin P.length) := ⟨⟨0, hP⟩⟩
    have hlen : dl.length = l.length := by rw [← hdl, List.length_map]
    have hHold : Sort.Holds (fun x : Fin P.length => Value.int .i64 (finI x)) w g 0 dl.toArray := fun j hj => by
      have hj' : j < dl.length := by simpa using hj
      rw [Nat.zero_add]
      refine ⟨?_, frozen_of_row w g j _ _ hh⟩
      rw [cell_of_row w g j _ _ _ hh, List.getElem?_toArray, flat_ints, ← hdl, List.map_append, List.getElem?_append_left (by simpa using hj')]
      simp [hj']
    have hcmp : CmpReads Try.prog 48 #[.pointer (some ⟨bx, 0, none⟩)] (fun x : Fin P.length => Value.int .i64 (finI x)) (fun x y => cmpR P x.val y.val) g 0 dl.toArray.size w := fun m os dk hs x y => by
      have hgr := grown_srt (fun x : Fin P.length => Value.int .i64 (finI x)) (w := w) (g := g) (n := m) (os := os) dk
      have hbl : Below base w (sortWorld (fun x : Fin P.length => Value.int .i64 (finI x)) w g 0 m dk os) := (Below.refl base w).grown hgr hbase (fun k hk => by cases hk; exact hg)
      exact pjoin1_any P v B bx x.val y.val _ x.isLt y.isLt (hv.below_ hbl hB) ((hbl.cell (p := ⟨bx, 0, none⟩) hbx).trans hb)
    have eg : ∀ args w, (callFunc 48 args).run Try.prog w = .ok (.enter 48 args) w := enters_of Try.func48 (by kernel_rfl) rfl
    have hcon := Any.slices_SortFunc sortI (fun x : Fin P.length => Value.int .i64 (finI x)) (fun _ => rfl) (fun x y => cmpR P x.val y.val) (rank_swo P) 48 #[.pointer (some ⟨bx, 0, none⟩)] g 0 (l.length + s.length) dl.toArray w eg hcmp.lays hHold (Array.getElem?_eq_some_iff.1 hh).1 (by simp; omega)
    rw [List.size_toArray, hlen] at hcon
    refine hcon.mono ?_
    rintro e w' ⟨rfl, d', n, os, ⟨hsz, _, hperm⟩, hsort, rfl⟩
    have hgr := grown_srt (fun x : Fin P.length => Value.int .i64 (finI x)) (w := w) (g := g) (n := n) (os := os) d'
    have hsz2 : d'.size = dl.length := by simpa using hsz
    have hpl : d'.toList.Perm dl := by
      have h := hperm
      have e1 : d'.extract 0 l.length = d' := by rw [← hlen, ← hsz2]; exact Array.extract_size
      have e2 : dl.toArray.extract 0 l.length = dl.toArray := by
        have := Array.extract_size (xs := dl.toArray)
        rwa [List.size_toArray, hlen] at this
      rw [e1, e2] at h
      simpa using h
    have hl' : d'.toList.length = dl.length := hpl.length_eq
    refine ⟨rfl, d'.toList.map finI, by rw [List.length_map, hl', hlen], ?_, ?_, ?_, (Below.refl base w).grown hgr hbase (fun k hk => by cases hk; exact hg)⟩
    · rw [← hdl]; exact hpl.map finI
    · rw [List.pairwise_map, List.pairwise_iff_getElem]
      intro i j hi hj hij
      have hs := hsort i j (Nat.zero_le _) hij (by rw [← hlen, ← hl']; exact hj)
      simp only [Array.length_toList] at hi hj
      rw [getElem!_pos d' i hi, getElem!_pos d' j hj] at hs
      rw [rank_lt] at hs
      simp only [Array.getElem_toList]
      show Vo.rankAt P (d'[i].val : Int) ≤ Vo.rankAt P (d'[j].val : Int)
      simp at hs
      exact hs
    · refine ⟨fun t ht => ?_, .inr ⟨g, s, ?_, hg, hs, ?_, ?_⟩⟩
      · obtain ⟨x, hx, rfl⟩ := List.mem_map.1 ht
        have : finI x ∈ l := by rw [← hdl]; exact List.mem_map.2 ⟨x, hpl.mem_iff.1 hx, rfl⟩
        exact ho.1 _ this
      · rw [List.length_map, hl', hlen]
      · rw [List.length_map, hl', hlen]; exact hm
      · rw [heap_srt _ d' hh]
        have e := put_ints dl d'.toList s hl'
        rw [hdl] at e
        rw [Array.toArray_toList] at e
        rw [e]
end Go.Proofs.Ytgkmlcghkkpgpaa
