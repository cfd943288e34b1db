/- Parts of the proof. -/
import Derived.Test.YtiafeniflkikeaaGreatPm21
import Derived.Test.YtiafeniflkikeaaGreatPm16
import Derived.Test.YtiafeniflkikeaaGreatPm46
import Derived.Test.YtiafeniflkikeaaGreatPm22
import Derived.Test.YtiafeniflkikeaaGreatPm28
import Derived.Test.YtiafeniflkikeaaGreatPm13
import Derived.Test.YtiafeniflkikeaaGreatPm12
import Derived.Test.YtiafeniflkikeaaGreatPm45
import Derived.Test.YtiafeniflkikeaaGreatPm26
import Derived.Test.YtiafeniflkikeaaGreatPm24
namespace Go.Proofs.YtiafeniflkikeaaGreat
open Go.RowKit
set_option linter.unusedVariables false
namespace Sf
theorem kept_snoc (t : St) (e : ByteArray × Nat) : ∀ (d : Dir) (l : List Int), kept t (d ++ [e]) l = kept t d l ++ [(kept1 (fileAt t e.2) (rest t d l)).1]
 | [], l => rfl
 | x :: d, l => by
  rw [List.cons_append, kept, kept, rest, kept_snoc t e d, List.cons_append]
theorem rest_snoc (t : St) (e : ByteArray × Nat) : ∀ (d : Dir) (l : List Int), rest t (d ++ [e]) l = (kept1 (fileAt t e.2) (rest t d l)).2
 | [], l => rfl
 | x :: d, l => by
  rw [List.cons_append, rest, rest, rest_snoc t e d]
theorem numbered_snoc (d : Dir) (e : ByteArray × Nat) : numbered (d ++ [e]) = numbered d ++ [(e.1, d.length)] := by
 unfold numbered
 rw [List.mapIdx_append]
 simp
theorem numbered_len (d : Dir) : (numbered d).length = d.length := by simp [numbered]
theorem numbered_nums (d : Dir) : (numbered d).map (·.2) = List.range d.length := by
 apply List.ext_getElem?
 intro i
 rw [List.getElem?_map, numbered, List.getElem?_mapIdx]
 cases h : d[i]? with
 | none => rw [List.getElem?_eq_none_iff] at h; rw [List.getElem?_eq_none (by simpa using h)]; rfl
 | some x => rw [List.getElem?_range (List.getElem?_eq_some_iff.1 h).1]; rfl
theorem numbered_lt (d : Dir) : ∀ e ∈ numbered d, e.2 < d.length := fun e he => by
 have h : e.2 ∈ (numbered d).map (·.2) := List.mem_map_of_mem he
 rw [numbered_nums] at h
 exact List.mem_range.1 h
theorem torn_len {b : List Nat} {a : Act} {n : Nat} (ha : a.at_ ≤ b.length) (hc : a.cut = false) : (torn b a n).length ≤ max b.length (a.at_ + a.b.length) := by
 unfold torn
 simp only
 generalize (if a.at_ + n < b.length then (a.at_ + n) / 512 * 512 else a.at_ + n) = e
 by_cases h : e ≤ a.at_
 ·rw [if_pos h]; exact Nat.le_max_left _ _
 ·rw [if_neg h, done_len_put ha, List.length_take]
  omega
theorem kept1_len {f : File} (h : FileOk f) (l : List Int) : (kept1 f l).1.length ≤ 1048576 := by
 rcases kept1_cases f l with ⟨k, hk, e⟩ | ⟨k, a, m, hk, hc, _, e⟩
 ·rw [e]; exact h.len k hk
 ·rw [e]
  have h1 := h.at_ k a hk
  have h2 := torn_len (n := m) h1.1 hc
  have h3 := h.len (k + 1) (by have := (List.getElem?_eq_some_iff.1 hk).1; omega)
  rw [bytes_succ hk] at h3
  obtain ⟨ac, aa, ab⟩ := a
  simp only at hc h1 h2 h3 ⊢
  subst hc
  rw [done_len_put h1.1] at h3
  omega
end Sf
end Go.Proofs.YtiafeniflkikeaaGreat
namespace Go.Proofs.YtiafeniflkikeaaGreat
open Go.RowKit
set_option linter.unusedVariables false
set_option maxHeartbeats 4000000 in
set_option maxRecDepth 100000 in
theorem psound_any (u : Sl) (l : List Nat) (B : Nat) (w : World) (h : Lv yK w B (slV u) l) (hB : B ≤ w.heap.size) (hl : l.length ≤ 1048576) :
  Calls Tryz.prog 73 #[slV u] w (fun e w' => ∃ v : Sl, e = .returned (xV ⟨u, ⟨none, 0, 0⟩, v⟩) ∧ OwnL yK w' w.heap.size (slV v) l ∧ Below w.heap.size w w') := by
 obtain ⟨uA, un, uc⟩ := u
 simp only [slV] at h ⊢
 obtain ⟨W, hW⟩ : ∃ W, w.alloc (.cells #[.slice none 0 0, .slice none 0 0, .slice none 0 0] 105) = W := ⟨_, rfl⟩
 obtain ⟨p, hp⟩ : ∃ p, w.heap.size = p := ⟨_, rfl⟩
 have hb : Below p w W := by rw [← hW, ← hp]; exact (Below.refl _ _).alloc (Nat.le_refl _) _
 have hWs : W.heap.size = p + 1 := by rw [← hW, ← hp]; simp
 have hW1 : Rw W p 105 #[.slice none 0 0, .slice none 0 0, .slice none 0 0] := by rw [← hW, ← hp]; exact heap_alloc_new _ _
 have CB := Lib.hid (pbclone_any (.slice uA un uc) l B W (h.below_ hb (by omega)) (by omega) (by omega))
 have HBW := Lib.hid hb
 have HWS := Lib.hid hWs
 have HZ := Lib.hid hW1
 have HP := Lib.hid hp
 clear h hB hb hW1
 go_enter Tryz.func73, Tryz.ntmps73
 go_wp2_with fail
 refine CB.out.mono ?_
 rintro e w4 ⟨Av, cv, rfl, hO, hB⟩
 have HO := Lib.hid hO
 have HB := Lib.hid hB
 have HZ4 : Hid (Rw w4 p 105 #[.slice none 0 0, .slice none 0 0, .slice none 0 0]) := HZ.out.below hB (by omega)
 clear CB hO hB
 have j0 : w4.cell? ⟨p, 0, none⟩ = some (.slice none 0 0) := by rw [HZ4.out.cell]; rfl
 have y0 := HZ4.out.frozen 0
 obtain ⟨w5, hw5⟩ : ∃ w5, w4.setCell ⟨p, 0, none⟩ (.slice uA un uc) = w5 := ⟨_, rfl⟩
 have HZ5 : Hid (Rw w5 p 105 #[.slice uA un uc, .slice none 0 0, .slice none 0 0]) := by unfold Hid; rw [← hw5]; exact HZ4.out.set 0 _
 have j1 : w5.cell? ⟨p, 1, none⟩ = some (.slice none 0 0) := by rw [HZ5.out.cell]; rfl
 have y1 := HZ5.out.frozen 1
 obtain ⟨w6, hw6⟩ : ∃ w6, w5.setCell ⟨p, 1, none⟩ (.slice none 0 0) = w6 := ⟨_, rfl⟩
 have HZ6 : Hid (Rw w6 p 105 #[.slice uA un uc, .slice none 0 0, .slice none 0 0]) := by unfold Hid; rw [← hw6]; exact HZ5.out.set 1 _
 have j2 : w6.cell? ⟨p, 2, none⟩ = some (.slice none 0 0) := by rw [HZ6.out.cell]; rfl
 have y2 := HZ6.out.frozen 2
 obtain ⟨w7, hw7⟩ : ∃ w7, w6.setCell ⟨p, 2, none⟩ (.slice Av l.length cv) = w7 := ⟨_, rfl⟩
 have HZ7 : Hid (Rw w7 p 105 #[.slice uA un uc, .slice none 0 0, .slice Av l.length cv]) := by unfold Hid; rw [← hw7]; exact HZ6.out.set 2 _
 have HB7 : Hid (Below p w w7) := by
  have t4 : Turned (fun k => p ≤ k) w w4 := (Turned.of_below HBW.out).trans (Turned.of_below HB.out) (fun k _ h => by have := HWS.out; have : W.heap.size ≤ k := h; omega)
  have t7 : Turned (fun k => p ≤ k) w w7 := by
   rw [← hw7, ← hw6, ← hw5]
   exact ((t4.setCell (p := ⟨p, 0, none⟩) (fun _ => Nat.le_refl _) _).setCell (p := ⟨p, 1, none⟩) (fun _ => Nat.le_refl _) _).setCell (p := ⟨p, 2, none⟩) (fun _ => Nat.le_refl _) _
  exact t7.below (by have := HP.out; omega) (fun k h => h)
 have HO7 : Hid (OwnL yK w7 p (.slice Av l.length cv) l) := (HO.out.of_block fun k hk => by
  have n1 : k ≠ p := fun e => own_ne HO.out HZ4.out (by decide) (by rw [← e]; exact hk)
  have s1 : ∀ (v : World) (o : Nat) (x : Value), (v.setCell ⟨p, o, none⟩ x).heap[k]? = v.heap[k]? := fun v o x => by
   unfold World.setCell
   simp only [Array.getElem?_modify, Ne.symm n1, if_false]
  rw [← hw7, s1, ← hw6, s1, ← hw5, s1]).mono_ (by have := HWS.out; omega)
 clear HO HB
 go_wp2
 exact bodyPost_ret (v := .agg #[.slice uA un uc, .slice none 0 0, .slice Av l.length cv]) (results_cell_row rfl _ _ p 105 #[.slice uA un uc, .slice none 0 0, .slice Av l.length cv] (0, 0) _ rfl HZ7.out Tryz.underlying105 rfl (by kernel_rfl)) rfl ⟨⟨Av, l.length, cv⟩, rfl, by rw [HP.out]; exact HO7.out, by rw [HP.out]; exact HB7.out⟩
namespace Sf
theorem dirOf_fold {t : St} {rn : List RawN} (hrow : t.row = dirs t.sure rn) (l : List Int) : dirOf t l = (rn.take (took l (t.row.length + 1))).foldl doN t.sure := by
 unfold dirOf dirAt
 have hk := took_le l t.row.length
 have hl : t.row.length = rn.length := by rw [hrow, dirs_len]
 generalize took l (t.row.length + 1) = k at hk ⊢
 split
 ·rename_i e
  subst e
  rfl
 ·rename_i e
  rw [hrow, List.getD_eq_getElem?_getD, dirs_at _ _ _ (by omega), show k - 1 + 1 = k by omega]
  rfl
theorem numbered_keys (d : Dir) : (numbered d).map (·.1) = d.map (·.1) := by
 unfold numbered
 apply List.ext_getElem?
 intro i
 simp only [List.getElem?_map, List.getElem?_mapIdx]
 cases d[i]? <;> rfl
theorem OkDir.of_keys {d e : Dir} (h : OkDir d) (hk : e.map (·.1) = d.map (·.1)) : OkDir e := by
 have h1 : (d.map (·.1)).Pairwise (fun a b => a.toList < b.toList) := by rw [List.pairwise_map]; exact h.rise
 rw [← hk, List.pairwise_map] at h1
 refine ⟨h1, fun x hx => ?_⟩
 have h2 : x.1 ∈ d.map (·.1) := by rw [← hk]; exact List.mem_map_of_mem hx
 obtain ⟨y, hy, e⟩ := List.mem_map.1 h2
 rw [← e]
 exact h.name y hy
theorem OkDir.numbered_ {d : Dir} (h : OkDir d) : OkDir (numbered d) := h.of_keys (numbered_keys d)
theorem OkDir.take_ {d : Dir} (h : OkDir d) (k : Nat) : OkDir (d.take k) := ⟨h.rise.sublist (List.take_sublist _ _), fun e he => h.name e (List.mem_of_mem_take he)⟩
theorem dirF_numbered {d : Dir} (h : OkDir d) {k : Nat} {e : ByteArray × Nat} (he : d[k]? = some e) : dirF (numbered (d.take (k + 1))) = fun s => if s = e.1 then some (k : Int) else dirF (numbered (d.take k)) s := by
 have hk := (List.getElem?_eq_some_iff.1 he).1
 have e1 : d.take (k + 1) = d.take k ++ [e] := by rw [List.take_add_one, he]; rfl
 have hl : (d.take k).length = k := by rw [List.length_take]; omega
 have ho := (h.take_ (k + 1)).numbered_
 have hn : numbered (d.take (k + 1)) = numbered (d.take k) ++ [(e.1, k)] := by rw [e1, numbered_snoc, hl]
 funext s
 unfold dirF
 by_cases hs : s = e.1
 ·rw [if_pos hs, hs, ho.find.2 (show (e.1, k) ∈ _ by rw [hn]; simp)]
  rfl
 ·rw [if_neg hs]
  congr 1
  rw [hn]
  unfold find
  rw [List.find?_append]
  have : List.find? (fun x : ByteArray × Nat => decide (x.1 = s)) [(e.1, k)] = none := by simp [Ne.symm hs]
  rw [this, Option.or_none]
end Sf
end Go.Proofs.YtiafeniflkikeaaGreat
namespace Go.Proofs.YtiafeniflkikeaaGreat
open Go.RowKit
set_option linter.unusedVariables false
structure Fl (w : World) (who : Who) (t : Sf.St) (l : List Int) (d : Sf.Dir) (j hb bf bs bn : Nat) (ff : Int → Option RawX) : Prop where
 head : IsHead w hb (headP (Sf.new t.room) bf bs bn ⟨none, 0, 0⟩)
 files : IsMp fM w bf j ff
 names : IsMp dM w bn j (Sf.dirF (Sf.numbered (d.take j)))
 file : ∀ (i : Int) (x : RawX), ff i = some x → ∃ (n : Nat) (b : List Nat), i = (n : Int) ∧ (Sf.kept t (d.take j) l)[n]? = some b ∧ HasX w who n x ⟨b, []⟩
 there : ∀ n : Nat, n < j → (ff (n : Int)).isSome
 headW : who hb = some .head
 filesW : who bf = some .files
 namesW : who bn = some .names
 sureW : who bs = some .sure
 lt : ∀ k, (who k).isSome → k < w.heap.size
section
variable {w w' : World} {who who' : Who} {t : Sf.St} {l : List Int} {d : Sf.Dir} {j hb bf bs bn : Nat} {ff : Int → Option RawX} {F : Nat → Prop}
theorem Fl.lt_head (h : Fl w who t l d j hb bf bs bn ff) : hb < w.heap.size := h.lt _ (by rw [h.headW]; rfl)
theorem Fl.turned (h : Fl w who t l d j hb bf bs bn ff) (ht : Turned F w w') (hF : ∀ k, F k → who k = none) : Fl w' who t l d j hb bf bs bn ff := by
 have no : ∀ k r, who k = some r → ¬ F k := fun k r hk hf => by rw [hF k hf] at hk; cases hk
 have no2 : ∀ r k, F k → who k ≠ some r := fun r k hf hk => no k r hk hf
 exact ⟨(ht.block hb h.lt_head (no _ _ h.headW)).trans h.head, h.files.turned_ ht (no _ _ h.filesW), h.names.turned_ ht (no _ _ h.namesW), fun i x hx => by
  obtain ⟨n, b, h1, h2, h3⟩ := h.file i x hx
  exact ⟨n, b, h1, h2, h3.turned ht fun k hk => ⟨no2 _ k hk, no2 _ k hk, no2 _ k hk, no2 _ k hk⟩⟩, h.there, h.headW, h.filesW, h.namesW, h.sureW, fun k hk => Nat.lt_of_lt_of_le (h.lt k hk) ht.size⟩
theorem Fl.new (h : Fl w who t l d j hb bf bs bn ff) {k : Nat} (hk : w.heap.size ≤ k) : who k = none := by
 cases hw : who k with
 | none => rfl
 | some r => have := h.lt k (by rw [hw]; rfl); omega
theorem Fl.kept_len (h : j ≤ d.length) : (Sf.kept t (d.take j) l).length = j := by rw [Sf.kept_len, List.length_take]; omega
theorem Fl.more (h : Fl w who t l d j hb bf bs bn ff) {e : ByteArray × Nat} (he : d[j]? = some e) (hd : Sf.OkDir d) {u v : Sl} {b : List Nat} (hbk : (Sf.kept1 (Sf.fileAt t e.2) (Sf.rest t (d.take j) l)).1 = b) (hok : b.length ≤ 1048576)
  {w5 w6 w7 : World} (ht : Turned F w w5) (hF : ∀ k, F k → who k = none) (hu : OwnL yK w5 w.heap.size (slV u) b) (hv : OwnL yK w5 w.heap.size (slV v) b) (hap : Apart (slV u) (slV v))
  (hm : IsMp fM w6 bf (j + 1) (fun k => if k = (j : Int) then some ⟨u, ⟨none, 0, 0⟩, v⟩ else ff k)) (hg : w5.grownBy w6 (some bf)) (hn : IsMp dM w7 bn (j + 1) (Sf.dirF (Sf.numbered (d.take (j + 1))))) (hg2 : w6.grownBy w7 (some bn)) :
  ∃ who', Fl w7 who' t l d (j + 1) hb bf bs bn (fun k => if k = (j : Int) then some ⟨u, ⟨none, 0, 0⟩, v⟩ else ff k) ∧ ∀ k, (who' k).isSome → (who k).isSome ∨ w.heap.size ≤ k := by
 have hjd := (List.getElem?_eq_some_iff.1 he).1
 have hw5 := h.turned ht hF
 have r1 : More who (lab who (slV u) (.fsure j)) := lab_more fun k hk => .inl (h.new (hu.lt_ k hk).1)
 have r2 : More (lab who (slV u) (.fsure j)) (lab (lab who (slV u) (.fsure j)) (slV v) (.fnow j)) := lab_more fun k hk => by
  have hne : (slV u).ownBlock ≠ some k := fun h => hap k h hk
  rw [lab_old hne]
  exact .inl (h.new (hv.lt_ k hk).1)
 obtain ⟨who', hwho⟩ : ∃ who', lab (lab who (slV u) (.fsure j)) (slV v) (.fnow j) = who' := ⟨_, rfl⟩
 have hmore : More who who' := by rw [← hwho]; exact r1.trans r2
 have hsm : ∀ k, (who' k).isSome → (who k).isSome ∨ (w.heap.size ≤ k ∧ k < w5.heap.size) := fun k hk => by
  rw [← hwho] at hk
  rcases lab_some hk with hk | hk
  ·rcases lab_some hk with hk | hk
   ·exact .inl hk
   ·exact .inr (hu.lt_ k hk)
  ·exact .inr (hv.lt_ k hk)
 have hT : Turned (fun k => k = bf ∨ k = bn) w5 w7 := ((Turned.of_grown hg).mono (G := fun k => k = bf ∨ k = bn) (fun k _ e => .inl (Option.some.inj e).symm)).trans (Turned.of_grown hg2) (fun k _ e => .inr (Option.some.inj e).symm)
 have off : ∀ r, r ≠ Role.files → r ≠ Role.names → ∀ k, (k = bf ∨ k = bn) → who k ≠ some r := fun r h1 h2 k hk e => by
  rcases hk with hk | hk
  ·rw [hk, h.filesW] at e; exact h1 (Option.some.inj e).symm
  ·rw [hk, h.namesW] at e; exact h2 (Option.some.inj e).symm
 have newoff : ∀ k, w.heap.size ≤ k → ¬ (k = bf ∨ k = bn) := fun k hk e => by
  rcases e with e | e
  ·have := h.lt bf (by rw [h.filesW]; rfl); omega
  ·have := h.lt bn (by rw [h.namesW]; rfl); omega
 have hkl := Fl.kept_len (t := t) (l := l) (d := d) (j := j) (by omega)
 have e1 : Sf.kept t (d.take (j + 1)) l = Sf.kept t (d.take j) l ++ [b] := by rw [List.take_add_one, he, ← hbk]; exact Sf.kept_snoc t e _ _
 have hs7 := hT.size
 refine ⟨who', ⟨?_, hm.turned_ (Turned.of_grown hg2) (fun e => ?_), hn, fun i x hx => ?_, fun n hn => ?_, hmore _ _ h.headW, hmore _ _ h.filesW, hmore _ _ h.namesW, hmore _ _ h.sureW, fun k hk => ?_⟩, fun k hk => (hsm k hk).imp id (fun h => h.1)⟩
 ·exact (hT.block hb hw5.lt_head (fun e => off .head (by simp) (by simp) hb e h.headW)).trans hw5.head
 ·have h1 := h.namesW
  rw [Option.some.inj e, h.filesW] at h1
  cases h1
 ·by_cases ei : i = (j : Int)
  ·rw [if_pos ei] at hx
   obtain rfl := Option.some.inj hx
   refine ⟨j, b, ei, by rw [e1, List.getElem?_append_right (by omega), hkl, Nat.sub_self]; rfl, ⟨?_, ?_, ?_, ?_, ⟨[], rfl, OwnL.nil_ _ _ _, fun j r a hr => by simp at hr⟩, Bears.nil_ _ _, fun _ => rfl, ?_⟩⟩
   ·exact (hu.turned_ hT (fun k hk e => newoff k (hu.lt_ k hk).1 e)).mono_ (Nat.zero_le _)
   ·rw [← hwho]; exact (lab_bears who (slV u) (.fsure j)).more r2
   ·exact (hv.turned_ hT (fun k hk e => newoff k (hv.lt_ k hk).1 e)).mono_ (Nat.zero_le _)
   ·rw [← hwho]; exact lab_bears _ _ _
   ·exact ⟨fun k hk => by
     have e : k = 0 := by simpa using hk
     subst e
     exact hok, fun k c hk => by simp at hk, by simp⟩
  ·rw [if_neg ei] at hx
   obtain ⟨n, b', h1, h2, h3⟩ := hw5.file i x hx
   refine ⟨n, b', h1, ?_, (h3.turned hT fun k hk => ⟨off _ (by simp) (by simp) k hk, off _ (by simp) (by simp) k hk, off _ (by simp) (by simp) k hk, off _ (by simp) (by simp) k hk⟩).more hmore⟩
   rw [e1, List.getElem?_append_left (List.getElem?_eq_some_iff.1 h2).1]
   exact h2
 ·by_cases ei : (n : Int) = (j : Int)
  ·rw [if_pos ei]; rfl
  ·rw [if_neg ei]; exact h.there n (by omega)
 ·rcases hsm k hk with hk | hk
  ·have := hw5.lt k hk; omega
  ·omega
theorem Fl.len (h : Fl w who t l d j hb bf bs bn ff) (hj : j ≤ d.length) (h64 : j ≤ 64) (ty : TypeId) : (Builtin.len_ #[66] ty #[.map (some bf)]).run Tryz.prog w = .ok (.int .i64 (j : Nat)) w := by
 have hkl := Fl.kept_len (t := t) (l := l) (d := d) (j := j) hj
 have := h.files.size_ fM_ok ((List.range j).map fun i : Nat => ((i : Int), (ff (i : Int)).getD x0)) (by
   rw [List.map_map, List.nodup_iff_pairwise_ne, List.pairwise_map]
   exact List.Pairwise.imp (fun {a b} hab e => hab (by have : (a : Int) = (b : Int) := e; omega)) (List.nodup_iff_pairwise_ne.1 List.nodup_range))
  (fun e he => by
   obtain ⟨i, hi, rfl⟩ := List.mem_map.1 he
   exact WalkArith.wf_i64 (by have := List.mem_range.1 hi; omega))
  (fun x _ y => by
   constructor
   ·intro hx
    obtain ⟨n, b, h1, h2, _⟩ := h.file x y hx
    have hn := (List.getElem?_eq_some_iff.1 h2).1
    exact List.mem_map.2 ⟨n, List.mem_range.2 (by omega), by rw [← h1, hx]; rfl⟩
   ·intro hm
    obtain ⟨i, hi, e⟩ := List.mem_map.1 hm
    have hs := h.there i (List.mem_range.1 hi)
    obtain ⟨z, hz⟩ := Option.isSome_iff_exists.1 hs
    rw [hz] at e
    injection e with e1 e2
    rw [← e1, hz]
    exact congrArg some e2) ty
 rw [List.length_map, List.length_range] at this
 exact this
theorem Fl.end_ (h : Fl w who t l d d.length hb bf bs bn ff) (hd : Sf.OkDir d) (h64 : d.length ≤ 64) (hroom : t.room ≤ 1048576) {w3 : World} {sb base : Nat} (hlo : ∀ k, (who k).isSome → base ≤ k) (hsb : w.heap.size ≤ sb) (hbs : base ≤ w.heap.size)
  (hh1 : Turned (fun k => k = hb ∨ w.heap.size ≤ k) w w3) (hh : IsHead w3 hb (((headP (Sf.new t.room) bf bs bn ⟨none, 0, 0⟩).set! 2 (.int .i64 (d.length : Nat))).set! 3 (.map (some sb)))) (hm : IsMp dM w3 sb d.length (Sf.dirF (Sf.numbered d))) (q : List Int) (hq : d = Sf.dirOf t q) (hlq : l = q.drop 1) :
  ∃ f', PDisk w3 f' (Sf.fail t q) hb ∧ f'.From base := by
 have hkl := Fl.kept_len (t := t) (l := l) (d := d) (j := d.length) (Nat.le_refl _)
 have htk : d.take d.length = d := List.take_length
 have hfa : Sf.fail t q = ⟨t.room, (Sf.kept t d l).map (fun b => ⟨b, []⟩), Sf.numbered d, [], Sf.numbered d, 0, 0, false⟩ := by unfold Sf.fail; rw [← hq, ← hlq]
 obtain ⟨who', hwho⟩ : ∃ who' : Who, (fun k => if k = sb then some Role.sure else who k) = who' := ⟨_, rfl⟩
 have hmore : More who who' := fun k r hk => by
  have hlt := h.lt k (by rw [hk]; rfl)
  rw [← hwho]
  show (if k = sb then some Role.sure else who k) = some r
  rw [if_neg (by omega), hk]
 have hws : who' sb = some .sure := by rw [← hwho]; exact if_pos rfl
 have hsm : ∀ k, (who' k).isSome → (who k).isSome ∨ k = sb := fun k hk => by
  rw [← hwho] at hk
  by_cases e1 : k = sb
  ·exact .inr e1
  ·have hk' : (if k = sb then some Role.sure else who k).isSome := hk
   rw [if_neg e1] at hk'
   exact .inl hk'
 have off : ∀ k r, who k = some r → r ≠ .head → ¬ (k = hb ∨ w.heap.size ≤ k) := fun k r hk hr e => by
  rcases e with e | e
  ·rw [e, h.headW] at hk; exact hr (Option.some.inj hk).symm
  ·have := h.lt k (by rw [hk]; rfl); omega
 have off2 : ∀ r, r ≠ Role.head → ∀ k, (k = hb ∨ w.heap.size ≤ k) → who k ≠ some r := fun r hr k e hk => off k r hk hr e
 have hfl : (Sf.fail t q).files.length = d.length := by rw [hfa]; show ((Sf.kept t d l).map _).length = _; rw [List.length_map, Sf.kept_len]
 refine ⟨fpOf who', ⟨who', bf, sb, bn, ⟨none, 0, 0⟩, ff, [], ?_, ⟨?_, ?_, ?_, OwnL.nil_ _ _ _, ?_, ?_, fun _ => rfl, fun i x hx => ?_, fun n hn => ?_, hmore _ _ h.filesW, hmore _ _ h.namesW, hws, Bears.nil_ _ _⟩, ?_, hmore _ _ h.headW, fun k => Iff.rfl, fun k h => h, fun k hk => ?_⟩, fun k hk => ?_⟩
 ·have e : headP (Sf.fail t q) bf sb bn ⟨none, 0, 0⟩ = ((headP (Sf.new t.room) bf bs bn ⟨none, 0, 0⟩).set! 2 (.int .i64 (d.length : Nat))).set! 3 (.map (some sb)) := by
   unfold headP
   rw [hfl, hfa]
   rfl
  rw [e]
  exact hh
 ·exact (h.files.turned_ hh1 (off _ _ h.filesW (by simp))).mono_ (by omega)
 ·rw [hfa]
  have h1 := h.names.turned_ hh1 (off _ _ h.namesW (by simp))
  rw [htk] at h1
  exact h1.mono_ (by omega)
 ·rw [hfa]
  exact hm.mono_ (by omega)
 ·rw [hfa]; rfl
 ·rw [hfa]; rfl
 ·obtain ⟨n, b, h1, h2, h3⟩ := h.file i x hx
  rw [htk] at h2
  refine ⟨n, ⟨b, []⟩, h1, by rw [hfa]; show ((Sf.kept t d l).map _)[n]? = _; rw [List.getElem?_map, h2]; rfl, (h3.turned hh1 fun k hk => ⟨off2 _ (by simp) k hk, off2 _ (by simp) k hk, off2 _ (by simp) k hk, off2 _ (by simp) k hk⟩).more hmore⟩
 ·refine h.there n ?_
  obtain ⟨d', hd', e, he, rfl⟩ := hn
  rw [hfa] at hd'
  rcases hd' with hd' | hd' | hd'
  ·rw [hd'] at he; exact Sf.numbered_lt d e he
  ·rw [hd'] at he; exact Sf.numbered_lt d e he
  ·cases hd'
 ·rw [hfa]
  have hl1 : ((Sf.kept t d l).map fun b => (⟨b, []⟩ : Sf.File)).length = d.length := by rw [List.length_map, Sf.kept_len]
  refine ⟨hroom, by show _ ≤ 64 + 0 + 0; rw [hl1]; omega, Nat.le_refl _, Nat.zero_le _, by show 0 < _; omega, hd.numbered_, hd.numbered_, (fun d hd => by cases hd), fun d' hd' => ?_, by show ((Sf.numbered d).map (·.2)).Nodup; rw [Sf.numbered_nums]; exact List.nodup_range, fun f hf => ?_⟩
  ·have hx : d' = Sf.numbered d := by
    rcases hd' with hd' | hd' | hd'
    ·exact hd'
    ·exact hd'
    ·cases hd'
   rw [hx]
   refine ⟨by rw [Sf.numbered_len]; exact h64, fun e he => ?_⟩
   show e.2 < ((Sf.kept t d l).map _).length
   rw [List.length_map, Sf.kept_len]
   exact Sf.numbered_lt d e he
  ·obtain ⟨b, _, rfl⟩ := List.mem_map.1 hf
   exact Nat.zero_le _
 ·rcases hsm k hk with hk | rfl
  ·exact Nat.lt_of_lt_of_le (h.lt k hk) hh1.size
  ·exact hm.lt_
 ·rcases hk with hk | hk
  ·rcases hsm k hk with hk | rfl
   ·exact hlo k hk
   ·omega
  ·exact hk.elim
end
end Go.Proofs.YtiafeniflkikeaaGreat
namespace Go.Proofs.YtiafeniflkikeaaGreat
open Go.RowKit
set_option linter.unusedVariables false
section
variable {w : World} {fp : Fp} {t : Sf.St} {b : Nat}
set_option maxHeartbeats 16000000 in
set_option maxRecDepth 100000 in
theorem pfail_any (h : PDisk w fp t b) (v : Value) (B : Nat) (l : List Int) (hv : Lv iK w B v l) (hB : B ≤ w.heap.size) : Calls Tryz.prog 26 #[.pointer (some ⟨b, 0, none⟩), v] w (IsDisk PDisk (Sf.fail t l) w) := by
 obtain ⟨who, bf, bs, bn, vr, ff, rn, h⟩ := h
 obtain ⟨cA, cc, rfl, hcc⟩ := hv
 have hv : Lv iK w B (.slice cA l.length cc) l := ⟨cA, cc, rfl, hcc⟩
 clear hcc
 have CM := Lib.hid (pmade_cell (w := w) (b := b) (some bf) (h.cell rfl))
 obtain ⟨p, hp⟩ : ∃ p, w.heap.size = p := ⟨_, rfl⟩
 obtain ⟨w1, hw1⟩ : ∃ w1, w.alloc (.cells #[.slice cA l.length cc] 118) = w1 := ⟨_, rfl⟩
 have hb1 : Below p w w1 := by rw [← hw1, ← hp]; exact (Below.refl _ _).alloc (Nat.le_refl _) _
 have hs1 : w1.heap.size = p + 1 := by rw [← hw1, ← hp]; simp
 have hL1 : Left w1 p B l := ⟨by omega, _, by rw [← hw1, ← hp]; exact heap_alloc_new _ _, hv.below_ hb1 (by omega)⟩
 have hH1 := h.below (by rw [hp]; exact hb1)
 have c13 : w1.cell? ⟨b, 3, none⟩ = some (.map (some bs)) := hH1.cell rfl
 have CC := Lib.hid (pmclone_any bs _ _ w1 hH1.body.sure)
 have HH := Lib.hid h
 have HL1 := Lib.hid hL1
 have HB1 := Lib.hid hb1
 have HS1 := Lib.hid hs1
 have HP := Lib.hid hp
 clear h hv hB hb1 hL1 hH1
 go_enter Tryz.func26, Tryz.ntmps26
 go_wp2_with fail
 refine CM.out.mono ?_
 rintro e1 w0 ⟨rfl, rfl⟩
 clear CM
 go_wp2_with fail
 refine CC.out.mono ?_
 rintro e2 w2 ⟨rfl, hm2, hb2, hs2⟩
 have HM2 : Hid (IsMp dM w2 (p + 1) (64 + t.acts + 0) (Sf.dirF t.sure)) := by rw [hs1] at hm2; exact hm2
 have HB2 : Hid (Below p w w2) := HB1.out.trans (hb2.mono (by omega))
 have HS2 : Hid (w2.heap.size = p + 2) := by unfold Hid; omega
 have HL2 : Hid (Left w2 p B l) := HL1.out.turned (Turned.of_below hb2) (fun k hk => by have := HL1.out.1; omega)
 rw [hs1]
 clear CC hm2 hb2 hs2 c13
 obtain ⟨vA, vn, vc⟩ := vr
 have HP2 := Lib.hid (HH.out.below (by have := HP.out; rw [this]; exact HB2.out))
 have hrv : Lv nK w2 p (.slice vA vn vc) rn := by
  have h1 := HH.out.body.row.form_
  have h2 : Lv nK w w.heap.size (.slice vA vn vc) rn := h1
  exact (h2.below_ (by rw [HP.out]; exact HB2.out) (Nat.le_refl _)).mono_ (by have := HP.out; omega)
 obtain ⟨hvn, hvc, _⟩ := hrv.len_
 subst hvn
 have HRV := Lib.hid hrv
 have hrl : t.row.length = rn.length := by have := HH.out.body.hrow; rw [this, Sf.dirs_len]
 have hrb : rn.length ≤ 1099511627776 := by have := HH.out.good.rows; have := HH.out.good.acts; omega
 have HBD : Hid (64 + t.acts + 0 + rn.length < maxLen) := by
  have := HH.out.good.acts
  simp only [Hid, maxLen]
  omega
 have HCL : Hid (∀ w', Turned (fun k => k = p) w2 w' → w'.cell? ⟨b, 4, none⟩ = some (.slice vA rn.length vc)) := fun w' ht => (HP2.out.turned ht (fun k hk => HH.out.new (by rw [hk, ← HP.out]; exact Nat.le_refl _))).cell rfl
 have CO := Lib.hid (pof_any w2.drew p B l (HL2.out.turned ((Turned.refl (fun _ => False) w2).drew) (fun _ h => h.elim)) (rn.length + 1) (by omega) (by omega))
 have hadd : IntKind.i64.wrap ((rn.length : Int) + 1) = ((rn.length + 1 : Nat) : Int) := by rw [IntKind.wrap_i64]; omega
 have htk := Sf.took_le l rn.length
 have HDO := Lib.hid (Sf.dirOf_fold HH.out.body.hrow l)
 rw [hrl] at HDO
 obtain ⟨n, hn⟩ : ∃ n, Sf.took l (rn.length + 1) = n := ⟨_, rfl⟩
 rw [hn] at CO HDO htk
 have k1 : ∀ w, (Instr.slice 69 (.slice vA rn.length vc) none (some (.int .i64 (n : Nat))) none).run Tryz.prog w = .ok (.slice vA n vc) w := fun w => cut_to nK rfl vA rn.length vc n (by omega) w
 have k2 : ∀ w, (Instr.sliceAt 69 (.slice vA rn.length vc) none (some (.int .i64 (n : Nat))) none).run Tryz.prog w = .ok (.slice vA n vc) w := fun w => cutAt_to nK rfl vA rn.length vc n (by omega) w
 have HN : Hid (n ≤ rn.length) := htk
 have hnl : n ≤ 9223372036854775807 := by omega
 clear hrv hvc htk hn hrl hrb
 go_wp2
 refine wp_region_held_drew (S := fun w' => Turned (fun k => k = p) w2 w') (by kernel_rfl) ((Turned.refl _ w2).drew) (fun hH => ?_)
 refine zH (i := 0) (v := ?_) rfl (by kernel_rfl) (fun _ _ _ h => h) (Or.inl ⟨by rfl, (by intro w' hSw; go_simp; first | done | with_reducible rfl)⟩) hH ?_
 try simp only [Act.put, zA, zC, zD, zE, zF]
 refine zH (i := 1) (v := ?_) rfl (by kernel_rfl) (fun _ _ _ h => h) (Or.inl ⟨by rfl, (by intro w' hSw; go_simp; first | done | with_reducible rfl)⟩) hH ?_
 try simp only [Act.put, zA, zB, zC, zD, zE, zF]
 refine zH (i := 2) (v := ?_) rfl (by kernel_rfl) (fun _ _ _ h => h) (Or.inl ⟨by rfl, (by intro w' hSw; go_simp; first | done | with_reducible rfl)⟩) hH ?_
 try simp only [Act.put, zA, zB, zC, zD, zE, zF]
 refine zH (i := 3) (v := ?_) rfl (by kernel_rfl) (fun _ _ _ h => h) (Or.inl ⟨by rfl, (by intro w' hSw; have s1 := HCL.out w' hSw; go_simp; first | done | with_reducible rfl)⟩) hH ?_
 try simp only [Act.put, zA, zB, zC, zD, zE, zF]
 refine zH (i := 4) (v := ?_) rfl (by kernel_rfl) (fun _ _ _ h => h) (Or.inl ⟨by rfl, (by intro w' hSw; go_simp; first | done | with_reducible rfl)⟩) hH ?_
 try simp only [Act.put, zA, zB, zC, zD, zE, zF]
 refine zH (i := 5) (v := ?_) rfl (by kernel_rfl) (fun _ _ _ h => h) (Or.inl ⟨by rfl, (by intro w' hSw; go_simp; first | done | with_reducible rfl)⟩) hH ?_
 try simp only [Act.put, zA, zB, zC, zD, zE, zF]
 refine zH (i := 6) (v := ?_) rfl (by kernel_rfl) (fun _ _ _ h => h) (Or.inl ⟨by rfl, (by intro w' hSw; go_simp; first | done | with_reducible rfl)⟩) hH ?_
 try simp only [Act.put, zA, zB, zC, zD, zE, zF]
 refine zH (i := 7) (v := ?_) rfl (by kernel_rfl) (fun _ _ _ h => h) (Or.inl ⟨by rfl, (by intro w' hSw; go_simp; first | done | with_reducible rfl)⟩) hH ?_
 try simp only [Act.put, zA, zB, zC, zD, zE, zF]
 refine zH (i := 8) (v := ?_) rfl (by kernel_rfl) (fun _ _ _ h => h) (Or.inl ⟨by rfl, (by intro w' hSw; have s1 := HCL.out w' hSw; go_simp; first | done | with_reducible rfl)⟩) hH ?_
 try simp only [Act.put, zA, zB, zC, zD, zE, zF]
 refine zH (i := 9) (v := ?_) rfl (by kernel_rfl) (fun _ _ _ h => h) (Or.inl ⟨by rfl, (by intro w' hSw; go_simp; first | done | with_reducible rfl)⟩) hH ?_
 try simp only [Act.put, zA, zB, zC, zD, zE, zF]
 refine zH (i := 10) (v := ?_) rfl (by kernel_rfl) (fun _ _ _ h => h) (Or.inl ⟨by rfl, (by intro w' hSw; go_simp; first | done | with_reducible rfl)⟩) hH ?_
 try simp only [Act.put, zA, zB, zC, zD, zE, zF]
 refine zH (i := 14) (v := ?_) rfl (by kernel_rfl) (fun _ _ _ h => h) (Or.inl ⟨by rfl, (by intro w' hSw; go_simp; first | done | with_reducible rfl)⟩) hH ?_
 try simp only [Act.put, zA, zB, zC, zD, zE, zF]
 refine wpAnyH_ready (rs := [11]) (by kernel_rfl) (by simp) ?_
 refine AllReadyH.cons rfl (fun K hK => ?_) AllReadyH.nil
 go_simp
 refine CO.out.mono ?_
 rintro e w3 ⟨rfl, hL3, hT3⟩
 have HL3 := Lib.hid hL3
 have hT23 : Turned (fun k => k = p) w2 w3 := ((Turned.refl (fun k => k = p) w2).drew).trans hT3 (fun _ _ h => h)
 have HT3 := Lib.hid hT23
 refine hK.out _ _ hT23 (fun hH => ?_)
 clear hK K CO hL3 hT3 hT23
 try simp only [Act.put, zA, zB, zC, zD, zE, zF]
 refine zH (i := 12) (v := ?_) rfl (by kernel_rfl) (fun _ _ _ h => h) (Or.inl ⟨by rfl, (by intro w' hSw; go_simp; first | done | with_reducible rfl)⟩) hH ?_
 try simp only [Act.put, zA, zB, zC, zD, zE, zF]
 refine zH (i := 13) (v := ?_) rfl (by kernel_rfl) (fun _ _ _ h => h) (Or.inl ⟨by rfl, (by intro w' hSw; go_simp; first | done | with_reducible rfl)⟩) hH ?_
 try simp only [Act.put, zA, zB, zC, zD, zE, zF]
 refine wpAnyH_done (by kernel_rfl) ?_ _
 clear hH
 have HB3 : Hid (Below p w w3) := ((Turned.of_below HB2.out).trans HT3.out (fun k _ h => by omega)).below (by have := HP.out; omega) (fun k h => h)
 have HM3 : Hid (IsMp dM w3 (p + 1) (64 + t.acts + 0) (Sf.dirF ((rn.take 0).foldl Sf.doN t.sure))) := HM2.out.turned_ HT3.out (by omega)
 have HS3 : Hid (p + 2 ≤ w3.heap.size) := by have := HT3.out.size; have := HS2.out; unfold Hid; omega
 have HRV3 : Hid (∀ wr, Turned (fun k => p + 1 ≤ k) w3 wr → Lv nK wr p (.slice vA rn.length vc) rn) := fun wr ht => (HRV.out.below_ (((Turned.of_below (Below.refl p w2)).trans HT3.out (fun k _ h => by omega)).below (by have := HS2.out; omega) (fun k h => h)) (Nat.le_refl _)).below_ (ht.below (B := p) (by have := HS3.out; omega) (fun k h => by omega)) (Nat.le_refl _)
 clear HM2 HL2 HP2 HRV HCL HS2 HB2
 go_wp2
 go_loopw [38] (fun i wr => ∃ k : Nat, k ≤ n ∧ i = .int .i64 k ∧ Hid (Turned (fun k => p + 1 ≤ k) w3 wr) ∧ Hid (IsMp dM wr (p + 1) (64 + t.acts + 0 + k) (Sf.dirF ((rn.take k).foldl Sf.doN t.sure)))) (fun i _ => n - (intOf i).toNat)
 case atStart => exact ⟨0, Nat.zero_le _, rfl, Turned.refl _ _, HM3.out⟩
 case round =>
  obtain ⟨k, hk, rfl, HT, HM⟩ := hrel
  clear HM3
  by_cases hlt : k < n
  ·obtain ⟨rb, off, r, rfl, hbp, hrok, hr, hc⟩ := (HRV3.out wr HT.out).at_ (show k < rn.length by have := HN.out; omega)
   have e0 : wr.cell? ⟨rb, off + k * 3, none⟩ = some (.string r.gone) := hc 0 _ rfl
   have e1 : wr.cell? ⟨rb, off + k * 3 + 1, none⟩ = some (.string r.come) := hc 1 _ rfl
   have e2 : wr.cell? ⟨rb, off + k * 3 + 2, none⟩ = some (.int .i64 (r.num : Nat)) := hc 2 _ rfl
   have HFO : Hid ((rn.take (k + 1)).foldl Sf.doN t.sure = Sf.doN ((rn.take k).foldl Sf.doN t.sure) r) := by
    unfold Hid
    rw [List.take_add_one, hr, List.foldl_append]
    rfl
   obtain ⟨gone, come, num⟩ := r
   simp only at e0 e1 e2
   obtain ⟨r1, r2, r3⟩ := hrok
   simp only at r1 r2 r3
   obtain ⟨wp, hwp⟩ : ∃ wp, wr.alloc (.cells #[.string gone, .string come, .int .i64 (num : Nat)] 121) = wp := ⟨_, rfl⟩
   have hgp : wr.grownBy wp none := by rw [← hwp]; exact World.grownBy_alloc wr _ none
   have hbxp : wp.heap[wr.heap.size]? = some (.cells #[.string gone, .string come, .int .i64 (num : Nat)] 121 (0, 0)) := by rw [← hwp]; exact heap_alloc_new _ _
   have d0' : wp.cell? ⟨wr.heap.size, 0, none⟩ = some (.string gone) := by rw [cell_of_row _ _ 0 _ _ _ hbxp]; rfl
   have d1' : wp.cell? ⟨wr.heap.size, 1, none⟩ = some (.string come) := by rw [cell_of_row _ _ 1 _ _ _ hbxp]; rfl
   have d2' : wp.cell? ⟨wr.heap.size, 2, none⟩ = some (.int .i64 (num : Nat)) := by rw [cell_of_row _ _ 2 _ _ _ hbxp]; rfl
   have CD := Lib.hid (pdirdo_any _ ⟨gone, come, num⟩ (p + 1) _ wp (HM.out.of_block (hgp.block (p + 1) HM.out.lt_ (by simp))) (by have := HN.out; have := HBD.out; omega) r1 r2 r3)
   change Hid (Calls _ _ #[.map (some (p + 1)), .agg #[.string gone, .string come, .int .i64 (num : Nat)]] wp _) at CD
   have hki : (k : Int) < (n : Int) := by omega
   have wk : IntKind.i64.wrap ((k : Int) + 1) = (k : Int) + 1 := by rw [IntKind.wrap_i64]; omega
   have HGP := Lib.hid hgp
   clear hc hr hgp hbxp hbp r1 r2 r3
   go_wp2_with fail
   refine CD.out.mono ?_
   rintro e W2 ⟨⟨y, rfl⟩, hm4, hg4⟩
   have HM4 := Lib.hid hm4
   have HG4 := Lib.hid hg4
   clear CD hm4 hg4
   go_wp2
   go_roundw
   case rel =>
    refine ⟨k + 1, hlt, by go_num, ?_, ?_⟩
    ·exact (HT.out.trans (Turned.of_grown HGP.out) (fun j _ h => by cases h)).trans (Turned.of_grown HG4.out) (fun j _ h => by have := Option.some.inj h; omega)
    ·rw [HFO.out]; exact HM4.out
   case measure => simp [intOf]; omega
  ·obtain rfl : k = n := by omega
   have hki : ¬ ((k : Int) < (k : Int)) := by omega
   rw [← HDO.out] at HM
   have hmem := Sf.dirOf_mem t l
   obtain ⟨d, hd⟩ : ∃ d, Sf.dirOf t l = d := ⟨_, rfl⟩
   rw [hd] at HM hmem
   have HDE : Hid (Sf.dirOf t l = d) := hd
   have HDok : Hid (Sf.OkDir d) := by
    rcases hmem with e | e
    ·unfold Hid; rw [e]; exact HH.out.good.sure
    ·exact HH.out.good.row d e
   have HDl : Hid (d.length ≤ 64 ∧ ∀ e ∈ d, e.2 < t.files.length) := HH.out.good.lens d (hmem.imp id (fun h => .inr h))
   have HDr : Hid (∀ e ∈ d, Reach t e.2) := fun e he => ⟨d, hmem.imp id (fun h => .inr h), e, he, rfl⟩
   have HBr : Hid (Below p w wr) := ((Turned.of_below HB3.out).trans HT.out (fun j _ h => by omega)).below (by have := HP.out; omega) (fun k h => h)
   have c0r : wr.cell? ⟨b, 0, none⟩ = some (.int .i64 (t.room : Nat)) := (HH.out.below (by rw [HP.out]; exact HBr.out)).cell rfl
   have CE := Lib.hid (pempty_any t.room HH.out.good.room wr)
   have hsr := HT.out.size
   have HLr : Hid (Left wr p B (l.drop 1)) := HL3.out.turned HT.out (fun j hj => by have := HL3.out.1; omega)
   have HSr : Hid (p + 2 ≤ wr.heap.size) := by have := HS3.out; unfold Hid; omega
   clear hd hmem HT HRV3 HL3 HB3 HS3 hsr k1 k2
   obtain ⟨q, hq⟩ : ∃ q, wr.heap.size = q := ⟨_, rfl⟩
   rw [hq] at CE HSr
   go_wp2_with fail
   refine CE.out.mono ?_
   rintro e w5 ⟨rfl, hP5, hB5, hm5, hn5⟩
   have hM5 : IsMp dM w5 (p + 1) (64 + t.acts + 0 + k) (Sf.dirF d) := HM.out.below_ hB5 (by have := HSr.out; omega)
   have CR := Lib.hid (prising_any (p + 1) _ d w5 hM5 HDok.out HDl.out.1)
   have HP5 := Lib.hid hP5
   have HB5 := Lib.hid hB5
   have HM5 := Lib.hid hM5
   have HF5 := Lib.hid hm5
   have HN5 := Lib.hid hn5
   have HQ := Lib.hid hq
   clear CE hP5 hB5 hm5 hn5 hM5 HM c0r
   go_wp2_with fail
   refine CR.out.mono ?_
   rintro e w6 ⟨nA, nc, rfl, hO6, hB6⟩
   have hs5 := HP5.out.lt (q + 3) (by rw [HP5.out.mine]; rfl)
   have HO6 := Lib.hid hO6
   have HM6 : Hid (IsMp dM w6 (p + 1) (64 + t.acts + 0 + k) (Sf.dirF d)) := HM5.out.below_ hB6 (by have := HSr.out; omega)
   have HL6 : Hid (Left w6 p B (Sf.rest t (d.take 0) (l.drop 1))) := by
    have h1 : Left w5 p B (l.drop 1) := HLr.out.turned (Turned.of_below HB5.out) (fun j hj => by have := HLr.out.1; have := HSr.out; omega)
    exact h1.turned (Turned.of_below hB6) (fun j hj => by have := HLr.out.1; have := HSr.out; omega)
   have hP6 := HP5.out.below hB6
   have HFl6 : Hid (Fl w6 (who0 q) t (l.drop 1) d 0 (q + 3) q (q + 1) (q + 2) (fun _ => none)) :=
    ⟨hP6.head, HF5.out.below_ hB6 (by omega), by have h1 := HN5.out.below_ hB6 (by omega); rw [List.take_zero]; exact h1.congr_ (fun _ _ => rfl), fun i x hx => (by cases hx), fun n hn => absurd hn (Nat.not_lt_zero n), HP5.out.mine, HP5.out.body.filesW, HP5.out.body.namesW, HP5.out.body.sureW, hP6.lt⟩
   have hml : (d.map (·.1)).length = d.length := List.length_map _
   have HB06 : Hid (Below p w w6) := ((Turned.of_below HBr.out).trans ((Turned.of_below HB5.out).trans (Turned.of_below hB6) (fun j _ h => by omega)) (fun j _ h => by have := HSr.out; omega)).below (by have := HP.out; omega) (fun k h => h)
   rw [hml] at HO6
   rw [hml]
   obtain ⟨N, hN⟩ : ∃ N, w6.heap.size = N := ⟨_, rfl⟩
   have HNN : Hid (w6.heap.size = N ∧ q + 4 ≤ w5.heap.size ∧ w5.heap.size ≤ N) := ⟨hN, by omega, by have := hB6.size; omega⟩
   clear CR hO6 hB6 hP6 HP5 HB5 HM5 HF5 HN5 HBr HLr hs5 hml hN
   have hdl : d.length ≤ 64 := HDl.out.1
   go_wp2
   go_loopw [54] (fun i wr => ∃ (j : Nat) (who' : Who) (ff' : Int → Option RawX), j ≤ d.length ∧ i = .int .i64 j ∧ Hid (Turned (fun k => k = p ∨ k = q ∨ k = q + 2 ∨ N ≤ k) w6 wr) ∧ Hid (Fl wr who' t (l.drop 1) d j (q + 3) q (q + 1) (q + 2) ff') ∧ Hid (Left wr p B (Sf.rest t (d.take j) (l.drop 1))) ∧ Hid (∀ k, (who' k).isSome → (q ≤ k ∧ k < q + 4) ∨ N ≤ k)) (fun i _ => d.length - (intOf i).toNat)
   case atStart => exact ⟨0, who0 q, fun _ => none, Nat.zero_le _, rfl, Turned.refl _ _, HFl6.out, HL6.out, fun k hk => .inl (who0_some hk)⟩
   case round =>
    obtain ⟨j, who', ff', hj, rfl, HT, HFl, HL, HLO⟩ := hrel
    clear HFl6 HL6
    have HBr : Hid (Below p w wr) := ((Turned.of_below HB06.out).trans HT.out (fun j _ h => by have := HSr.out; have := HNN.out; omega)).below (by have := HP.out; omega) (fun k h => h)
    have hsr := HT.out.size
    by_cases hlt : j < d.length
    ·obtain ⟨e, he⟩ : ∃ e, d[j]? = some e := ⟨_, List.getElem?_eq_getElem hlt⟩
     have hmem : e ∈ d := by
      obtain ⟨h1, h2⟩ := List.getElem?_eq_some_iff.1 he
      rw [← h2]; exact List.getElem_mem h1
     have hOr : OwnQ sK wr w5.heap.size (.slice nA d.length nc) (d.map (·.1)) := HO6.out.turned_ HT.out (fun k hk h => by
      have h1 := HO6.out.lt_ k hk
      have h2 := HNN.out
      have h3 := HSr.out
      omega)
     obtain ⟨xb, off, xs, rfl, _, hxm, hxs, cx⟩ := hOr.form_.str_ (k := j) (by rw [List.length_map]; exact hlt)
     rw [List.getElem?_map, he] at hxs
     have hxe : e.1 = xs := Option.some.inj hxs
     subst hxe
     obtain ⟨x, hx, hxl, hX⟩ := HH.out.file_at (HDr.out e hmem)
     have hfd : Sf.dirF d e.1 = some (e.2 : Int) := by
      unfold Sf.dirF
      rw [HDok.out.find.2 (show (e.1, e.2) ∈ d from hmem)]
      rfl
     have hno : ∀ k, p ≤ k → who k = none := fun k hk => HH.out.new (by rw [HP.out]; exact hk)
     obtain ⟨S1, hS1⟩ : ∃ S : Nat → Prop, (fun k => k = p ∨ wr.heap.size ≤ k) = S := ⟨_, rfl⟩
     have HS1' : Hid (∀ k, S1 k ↔ (k = p ∨ wr.heap.size ≤ k)) := fun k => by rw [← hS1]
     have HSN : Hid (N ≤ wr.heap.size) := by have := HNN.out; unfold Hid; omega
     have HTS : Hid (∀ w', Turned S1 wr w' → Turned (fun k => p ≤ k) w w') := fun w' ht => (Turned.of_below HBr.out).trans ht (fun k _ h => by have := (HS1'.out k).1 h; have := HSN.out; have := HNN.out; have := HSr.out; omega)
     have HCF : Hid (∀ w', Turned S1 wr w' → w'.cell? ⟨b, 1, none⟩ = some (.map (some bf))) := fun w' ht => (HH.out.turned (HTS.out w' ht) (fun k hk => hno k hk)).cell rfl
     have HCH : Hid (∀ w', Turned S1 wr w' → Fl w' who' t (l.drop 1) d j (q + 3) q (q + 1) (q + 2) ff') := fun w' ht => HFl.out.turned ht (fun k hk => by
      rcases (HS1'.out k).1 hk with h | h
      ·cases hw : who' k with
       | none => rfl
       | some r =>
        have h1 := HLO.out k (by rw [hw]; rfl)
        have h2 := HSr.out
        have h3 := HNN.out
        omega
      ·exact HFl.out.new h)
     have HCG : Hid (∀ w', Turned S1 wr w' → w'.cell? ⟨q + 3, 1, none⟩ = some (.map (some q))) := fun w' ht => head_cellP (HCH.out w' ht).head rfl
     have HLK1 : Hid (∀ w', Turned S1 wr w' → (Instr.lookup 68 (.map (some (p + 1))) (.string e.1) false).run Tryz.prog w' = .ok (.int .i64 (e.2 : Nat)) w') := fun w' ht => by
      have hM : IsMp dM w' (p + 1) (64 + t.acts + 0 + k) (Sf.dirF d) := (HM6.out.turned_ HT.out (by have := HSr.out; have := HNN.out; omega)).turned_ ht (fun h => by have := (HS1'.out _).1 h; have := HSr.out; have := HSN.out; have := HNN.out; omega)
      have := hM.look (x := e.1) (Sf.name_max (HDok.out.name e hmem))
      rw [hfd] at this
      exact this
     have hmi : (Lit.int .i64 (e.2 : Int)).wf = true := WalkArith.wf_i64 (by have := HH.out.good.files; have := HH.out.good.acts; omega)
     have HLK2 : Hid (∀ w', Turned S1 wr w' → (Instr.lookup 66 (.map (some bf)) (.int .i64 (e.2 : Nat)) false).run Tryz.prog w' = .ok (xV x) w') := fun w' ht => by
      have hM := (HH.out.turned (HTS.out w' ht) (fun k hk => hno k hk)).body.files
      have := hM.look (x := (e.2 : Int)) hmi
      rw [hx] at this
      exact this
     have hXr : HasX wr.drew who e.2 x (Sf.fileAt t e.2) := hX.turned ((Turned.of_below HBr.out).drew) (fun k hk => by rw [hno k hk]; simp)
     have CL := Lib.hid (pleft_any wr.drew hXr p B (Sf.rest t (d.take j) (l.drop 1)) (HL.out.turned ((Turned.refl (fun _ => False) wr).drew) (fun _ h => h.elim)) (hno p (Nat.le_refl _)))
     have HRS : Hid (Sf.rest t (d.take (j + 1)) (l.drop 1) = (Sf.kept1 (Sf.fileAt t e.2) (Sf.rest t (d.take j) (l.drop 1))).2) := by
      unfold Hid
      rw [List.take_add_one, he]
      exact Sf.rest_snoc t e _ _
     have HKL := Lib.hid (Sf.kept1_len hX.ok (Sf.rest t (d.take j) (l.drop 1)))
     obtain ⟨k1, hk1⟩ : ∃ k1, Sf.kept1 (Sf.fileAt t e.2) (Sf.rest t (d.take j) (l.drop 1)) = k1 := ⟨_, rfl⟩
     rw [hk1] at CL HRS HKL
     obtain ⟨b1, l1⟩ := k1
     simp only at CL HRS HKL
     have HK1 : Hid ((Sf.kept1 (Sf.fileAt t e.2) (Sf.rest t (d.take j) (l.drop 1))).1 = b1) := by unfold Hid; rw [hk1]
     obtain ⟨C, hC⟩ : ∃ C, xV x = C := ⟨_, rfl⟩
     rw [hC] at CL HLK2
     have HE := Lib.hid he
     have HDN := Lib.hid (Sf.dirF_numbered HDok.out he)
     have HEM : Hid (e.1.size ≤ maxLen) := hxm
     have hji : (j : Int) < (d.length : Int) := by omega
     have wj : IntKind.i64.wrap ((j : Int) + 1) = (j : Int) + 1 := by rw [IntKind.wrap_i64]; omega
     obtain ⟨ename, enum⟩ := e
     simp only at cx HLK1 HLK2 HDN HEM HRS HK1
     clear he hmem hOr hxs hx hxl hX hfd hno hS1 hmi hXr hk1 hC hsr hxm
     go_wp2
     refine wp_region_m (fun w' => Turned S1 wr w') 16 (by kernel_rfl) ?_
     have hH : Turned S1 wr wr.drew := (Turned.refl S1 wr).drew
     refine zM (i := 0) (v := ?_) rfl (by kernel_rfl) (fun _ _ _ h => h) hH (Or.inl ⟨by rfl, (by intro w' hSw; go_simp; first | done | with_reducible rfl)⟩) ?_
     try simp only [Act.put, zA, zC, zD, zE, zF]
     refine zM (i := 1) (v := ?_) rfl (by kernel_rfl) (fun _ _ _ h => h) hH (Or.inl ⟨by rfl, (by intro w' hSw; go_simp; first | done | with_reducible rfl)⟩) ?_
     try simp only [Act.put, zA, zB, zC, zD, zE, zF]
     refine zM (i := 2) (v := ?_) rfl (by kernel_rfl) (fun _ _ _ h => h) hH (Or.inl ⟨by rfl, (by intro w' hSw; go_simp; first | done | with_reducible rfl)⟩) ?_
     try simp only [Act.put, zA, zB, zC, zD, zE, zF]
     refine zM (i := 3) (v := ?_) rfl (by kernel_rfl) (fun _ _ _ h => h) hH (Or.inl ⟨by rfl, (by intro w' hSw; have s1 := HCG.out w' hSw; go_simp; first | done | with_reducible rfl)⟩) ?_
     try simp only [Act.put, zA, zB, zC, zD, zE, zF]
     refine zM (i := 4) (v := ?_) rfl (by kernel_rfl) (fun _ _ _ h => h) hH (Or.inl ⟨by rfl, (by intro w' hSw; go_simp; first | done | with_reducible rfl)⟩) ?_
     try simp only [Act.put, zA, zB, zC, zD, zE, zF]
     refine zM (i := 5) (v := ?_) rfl (by kernel_rfl) (fun _ _ _ h => h) hH (Or.inl ⟨by rfl, (by intro w' hSw; go_simp; first | done | with_reducible rfl)⟩) ?_
     try simp only [Act.put, zA, zB, zC, zD, zE, zF]
     refine zM (i := 6) (v := ?_) rfl (by kernel_rfl) (fun _ _ _ h => h) hH (Or.inl ⟨by rfl, (by intro w' hSw; go_simp; first | done | with_reducible rfl)⟩) ?_
     try simp only [Act.put, zA, zB, zC, zD, zE, zF]
     refine zM (i := 7) (v := ?_) rfl (by kernel_rfl) (fun _ _ _ h => h) hH (Or.inl ⟨by rfl, (by intro w' hSw; go_simp; first | done | with_reducible rfl)⟩) ?_
     try simp only [Act.put, zA, zB, zC, zD, zE, zF]
     refine zM (i := 8) (v := ?_) rfl (by kernel_rfl) (fun _ _ _ h => h) hH (Or.inl ⟨by rfl, (by intro w' hSw; have s1 := HCF.out w' hSw; go_simp; first | done | with_reducible rfl)⟩) ?_
     try simp only [Act.put, zA, zB, zC, zD, zE, zF]
     refine zM (i := 9) (v := ?_) rfl (by kernel_rfl) (fun _ _ _ h => h) hH (Or.inl ⟨by rfl, (by intro w' hSw; go_simp; first | done | with_reducible rfl)⟩) ?_
     try simp only [Act.put, zA, zB, zC, zD, zE, zF]
     refine zM (i := 10) (v := ?_) rfl (by kernel_rfl) (fun _ _ _ h => h) hH (Or.inl ⟨by rfl, (by intro w' hSw; go_simp; first | done | with_reducible rfl)⟩) ?_
     try simp only [Act.put, zA, zB, zC, zD, zE, zF]
     refine zM (i := 11) (v := ?_) rfl (by kernel_rfl) (fun _ _ _ h => h) hH (Or.inl ⟨by rfl, (by intro w' hSw; have s1 := HLK1.out w' hSw; go_simp; first | done | with_reducible rfl)⟩) ?_
     try simp only [Act.put, zA, zB, zC, zD, zE, zF]
     refine zM (i := 12) (v := ?_) rfl (by kernel_rfl) (fun _ _ _ h => h) hH (Or.inl ⟨by rfl, (by intro w' hSw; have s1 := HLK2.out w' hSw; go_simp; first | done | with_reducible rfl)⟩) ?_
     try simp only [Act.put, zA, zB, zC, zD, zE, zF]
     refine zM (i := 13) (v := ?_) rfl (by kernel_rfl) (fun _ _ _ h => h) hH (Or.inl ⟨by rfl, (by intro w' hSw; go_simp; first | done | with_reducible rfl)⟩) ?_
     try simp only [Act.put, zA, zB, zC, zD, zE, zF]
     refine wpAnyM_next (i := 14) (by kernel_rfl) rfl (fun K hK => ?_)
     go_simp
     refine CL.out.mono ?_
     rintro e7 w7 ⟨u, rfl, hO7, hL7, hT7⟩
     have hT17 : Turned S1 wr w7 := hH.trans hT7 (fun k _ h => (HS1'.out k).2 (.inl h))
     have HO7 : Hid (OwnL yK w7 wr.heap.size (slV u) b1) := hO7
     have HL7 := Lib.hid hL7
     have HT17 := Lib.hid hT17
     have CS := Lib.hid (psound_any u b1 w7.heap.size w7 hO7.form_ (Nat.le_refl _) HKL.out)
     obtain ⟨U, hU⟩ : ∃ U, slV u = U := ⟨_, rfl⟩
     rw [hU] at CS
     rw [hU]
     refine hK.out _ _ (.inr hT17) ?_
     clear hK K CL hO7 hL7 hT7
     try simp only [Act.put, zA, zB, zC, zD, zE, zF]
     refine wpAnyM_next (i := 15) (by kernel_rfl) rfl (fun K hK => ?_)
     go_simp
     refine CS.out.mono ?_
     rintro e8 w8 ⟨vv, rfl, hO8, hB8⟩
     have hT18 : Turned S1 wr w8 := hT17.trans (Turned.of_below hB8) (fun k _ h => (HS1'.out k).2 (.inr (by have := hT17.size; omega)))
     have HO8 := Lib.hid hO8
     have HB8 := Lib.hid hB8
     have HT18 := Lib.hid hT18
     have hF8 := HCH.out w8 hT18
     have hji2 : (Lit.int .i64 (j : Int)).wf = true := WalkArith.wf_i64 (by omega)
     obtain ⟨w9, hup, hm9, hg9⟩ := hF8.files.upd (by simp only [maxLen]; omega) hji2 (⟨u, ⟨none, 0, 0⟩, vv⟩ : RawX)
     change (Instr.mapUpdate 66 (.map (some q)) (.int .i64 (j : Nat)) (xV ⟨u, ⟨none, 0, 0⟩, vv⟩)).run Tryz.prog w8 = .ok () w9 at hup
     obtain ⟨D, hDD⟩ : ∃ D, xV ⟨u, ⟨none, 0, 0⟩, vv⟩ = D := ⟨_, rfl⟩
     rw [hDD] at hup
     rw [hDD]
     have HM9 := Lib.hid hm9
     have HG9 := Lib.hid hg9
     have HN8 := Lib.hid hF8.names
     have HH8 := Lib.hid hF8.head
     refine hK.out _ _ (.inr hT18) ?_
     clear hK K CS hO8 hB8 hT17 hT18 hF8 hm9 hg9 hDD
     try simp only [Act.put, zA, zB, zC, zD, zE, zF]
     refine wpAnyM_next (i := 16) (by kernel_rfl) rfl (fun K hK => ?_)
     go_simp
     refine hK.out _ _ (.inl (Nat.le_refl _)) ?_
     clear hK K hup
     try simp only [Act.put, zA, zB, zC, zD, zE, zF]
     refine wpAnyM_done (by kernel_rfl) ?_ _
     have HH9 : Hid (IsHead w9 (q + 3) (headP (Sf.new t.room) q (q + 1) (q + 2) ⟨none, 0, 0⟩)) := (HG9.out.block (q + 3) (Array.getElem?_eq_some_iff.1 HH8.out).1 (fun e => by have := Option.some.inj e; omega)).trans HH8.out
     have HN9 : Hid (IsMp dM w9 (q + 2) j (Sf.dirF (Sf.numbered (d.take j)))) := HN8.out.of_block (HG9.out.block (q + 2) HN8.out.lt_ (fun e => by have := Option.some.inj e; omega))
     have h95 : w9.cell? ⟨q + 3, 5, none⟩ = some (.map (some (q + 2))) := head_cellP HH9.out rfl
     clear hH HCF HCH HCG HLK1 HLK2 HTS HN8 HH8 hU
     go_wp2_with (at_mapUpdate; refine wpList_mapUpdate_mp _ dM rfl _ _ _ rfl (q + 2) _ _ rfl HN9.out (by simp only [maxLen]; omega) ename rfl HEM.out (j : Int) rfl ?_; intro w10 hm10 hg10; have HM10 := Lib.hid hm10; have HG10 := Lib.hid hg10; clear hm10 hg10)
     go_roundw
     case rel =>
      have hS1no : ∀ k, S1 k → who' k = none := fun k hk => by
       rcases (HS1'.out k).1 hk with h | h
       ·cases hw : who' k with
        | none => rfl
        | some r =>
         have h1 := HLO.out k (by rw [hw]; rfl)
         have h2 := HSr.out
         have h3 := HNN.out
         omega
       ·exact HFl.out.new h
      have hs17 := HT17.out.size
      obtain ⟨who2, hF10, hsm⟩ := HFl.out.more HE.out HDok.out HK1.out HKL.out HT18.out hS1no (HO7.out.below_ HB8.out (Nat.le_refl _)) (HO8.out.mono_ hs17) (fun k h1 h2 => by have h3 := (HO7.out.lt_ k h1).2; have h4 := (HO8.out.lt_ k h2).1; omega) HM9.out HG9.out (by rw [HDN.out]; exact HM10.out) HG10.out
      have hpq := HSr.out
      have hnn := HNN.out
      have hsn := HSN.out
      refine ⟨j + 1, who2, _, hlt, by go_num, ?_, hF10, ?_, fun k hk => ?_⟩
      ·have t1 := HT.out.trans HT18.out (fun k _ h => by have := (HS1'.out k).1 h; omega)
       have t2 := t1.trans (Turned.of_grown HG9.out) (fun k _ h => by have := Option.some.inj h; omega)
       exact t2.trans (Turned.of_grown HG10.out) (fun k _ h => by have := Option.some.inj h; omega)
      ·rw [HRS.out]
       have hB := HL7.out.1
       have h1 := HL7.out.turned (Turned.of_below HB8.out) (fun k hk => by omega)
       have h2 := h1.turned (Turned.of_grown HG9.out) (fun k hk => by have := Option.some.inj hk; omega)
       exact h2.turned (Turned.of_grown HG10.out) (fun k hk => by have := Option.some.inj hk; omega)
      ·rcases hsm k hk with h | h
       ·exact HLO.out k h
       ·exact .inr (by omega)
     case measure => simp [intOf]; omega
    ·obtain rfl : j = d.length := by omega
     have hji : ¬ ((d.length : Int) < (d.length : Int)) := by omega
     have hlen := HFl.out.len (Nat.le_refl _) hdl 3
     have c1 : wr.cell? ⟨q + 3, 1, none⟩ = some (.map (some q)) := head_cellP HFl.out.head rfl
     have c2 : wr.cell? ⟨q + 3, 2, none⟩ = some (.int .i64 0) := head_cellP HFl.out.head rfl
     have z2 : wr.frozen? ⟨q + 3, 2, none⟩ = false := frozen_of_row wr (q + 3) 2 _ _ HFl.out.head
     have hh7 := head_setP HFl.out.head 2 (.int .i64 (d.length : Nat)) rfl
     have hT7 : Turned (fun k => k = q + 3 ∨ wr.heap.size ≤ k) wr (wr.setCell ⟨q + 3, 2, none⟩ (.int .i64 (d.length : Nat))) := (Turned.refl (fun k => k = q + 3 ∨ wr.heap.size ≤ k) wr).setCell (p := ⟨q + 3, 2, none⟩) (fun _ => .inl rfl) _
     obtain ⟨w7, hw7⟩ : ∃ w7, wr.setCell ⟨q + 3, 2, none⟩ (.int .i64 (d.length : Nat)) = w7 := ⟨_, rfl⟩
     rw [hw7] at hh7 hT7
     have c5 : w7.cell? ⟨q + 3, 5, none⟩ = some (.map (some (q + 2))) := head_cellP hh7 rfl
     have hq2 : q + 2 < wr.heap.size := HFl.out.names.lt_
     have hn7 := HFl.out.names.turned_ hT7 (by omega)
     rw [List.take_length] at hn7
     have CC := Lib.hid (pmclone_any (q + 2) _ _ w7 hn7)
     have HH7 := Lib.hid hh7
     have HT7 := Lib.hid hT7
     have hl3 := HFl.out.lt_head
     clear hh7 hT7 hn7
     go_wp2_with fail
     refine CC.out.mono ?_
     rintro e8 w8 ⟨rfl, hm8, hb8, hs8⟩
     have hh8 : IsHead w8 (q + 3) _ := (hb8.block (q + 3) (Nat.lt_of_lt_of_le hl3 HT7.out.size)).trans HH7.out
     have c3 : w8.cell? ⟨q + 3, 3, none⟩ = some (.map (some (q + 1))) := head_cellP hh8 rfl
     have z3 : w8.frozen? ⟨q + 3, 3, none⟩ = false := frozen_of_row w8 (q + 3) 3 _ _ hh8
     have hh9 := head_setP hh8 3 (.map (some w7.heap.size)) rfl
     have hT8 : Turned (fun k => k = q + 3 ∨ wr.heap.size ≤ k) wr w8 := HT7.out.trans (Turned.of_below hb8) (fun k _ h => .inr (Nat.le_trans HT7.out.size h))
     have hT9 : Turned (fun k => k = q + 3 ∨ wr.heap.size ≤ k) wr (w8.setCell ⟨q + 3, 3, none⟩ (.map (some w7.heap.size))) := hT8.setCell (p := ⟨q + 3, 3, none⟩) (fun _ => .inl rfl) _
     have hs79 : (w8.setCell ⟨q + 3, 3, none⟩ (.map (some w7.heap.size))).heap[w7.heap.size]? = w8.heap[w7.heap.size]? := by
      unfold World.setCell
      have : q + 3 ≠ w7.heap.size := by have := HT7.out.size; omega
      simp only [Array.getElem?_modify, this, if_false]
     obtain ⟨w9, hw9⟩ : ∃ w9, w8.setCell ⟨q + 3, 3, none⟩ (.map (some w7.heap.size)) = w9 := ⟨_, rfl⟩
     rw [hw9] at hh9 hT9 hs79
     have HM9 : Hid (IsMp dM w9 w7.heap.size d.length (Sf.dirF (Sf.numbered d))) := hm8.of_block hs79
     have HH9 := Lib.hid hh9
     have HT9 := Lib.hid hT9
     clear CC hm8 hb8 hs8 hh8 hh9 hT8 hT9 hs79
     go_wp2
     go_ret2
     have hsr2 := HSr.out
     have hnn := HNN.out
     obtain ⟨f', hPD, hFr⟩ := HFl.out.end_ (base := p) (sb := w7.heap.size) HDok.out hdl HH.out.good.room (fun k hk => by have := HLO.out k hk; omega) HT7.out.size (by omega) HT9.out HH9.out HM9.out l HDE.out.symm rfl
     refine ⟨q + 3, f', rfl, hPD, by rw [HP.out]; exact hFr, ?_⟩
     rw [HP.out]
     exact ((Turned.of_below HBr.out).trans HT9.out (fun k _ h => by omega)).below (by have := HP.out; omega) (fun k h => h)
end
end Go.Proofs.YtiafeniflkikeaaGreat
