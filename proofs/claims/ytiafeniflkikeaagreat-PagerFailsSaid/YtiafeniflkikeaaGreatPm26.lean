/- Parts of the proof. -/
import Derived.Test.YtiafeniflkikeaaGreatPm25
import Derived.Test.YtiafeniflkikeaaGreatPm23
import Derived.Test.YtiafeniflkikeaaGreatPm22
import Derived.JoinedCond
import Derived.StillTailTactics
namespace Go.Proofs.YtiafeniflkikeaaGreat
open Go.RowKit
set_option linter.unusedVariables false
theorem fileOk_none : FileOk Sf.noFile where
 len := fun k hk => by
  have e : k = 0 := by simpa [Sf.noFile] using hk
  subst e
  simp [Sf.bytes, Sf.noFile]
 at_ := fun k c hk => by simp [Sf.noFile] at hk
 row := by simp [Sf.noFile]
theorem hasX_none (w : World) (who : Who) (n : Nat) : HasX w who n x0 Sf.noFile :=
 ⟨OwnL.nil_ _ _ _, Bears.nil_ _ _, OwnL.nil_ _ _ _, Bears.nil_ _ _, ⟨[], rfl, OwnL.nil_ _ _ _, fun j r a h => by simp at h⟩, Bears.nil_ _ _, fun _ => rfl, fileOk_none⟩
section
variable {w w' : World} {fp : Fp} {t : Sf.St} {b : Nat} {who : Who} {bf bs bn : Nat} {vr : Sl} {ff : Int → Option RawX} {rn : List RawN} {F : Nat → Prop}
theorem PBody.more_file (h : PBody w who 0 t bf bs bn vr ff rn) (hT : Turned F w w') (hF : ∀ k, F k → who k = none ∨ who k = some .head ∨ who k = some .files)
  (hmap : IsMp fM w' bf (64 + t.acts + 1) (fun k => if k = (t.files.length : Int) then some x0 else ff k)) :
  PBody w' who 1 { t with files := t.files ++ [Sf.noFile] } bf bs bn vr (fun k => if k = (t.files.length : Int) then some x0 else ff k) rn := by
 have no : ∀ r, r ≠ Role.head → r ≠ Role.files → ∀ k, F k → who k ≠ some r := fun r h1 h2 k hf hk => by
  rcases hF k hf with h6 | h6 | h6 <;> rw [h6] at hk
  ·cases hk
  ·exact h1 (Option.some.inj hk).symm
  ·exact h2 (Option.some.inj hk).symm
 have no1 : ∀ r k, who k = some r → r ≠ Role.head → r ≠ Role.files → ¬ F k := fun r k hk h1 h2 hf => no r h1 h2 k hf hk
 refine ⟨hmap, (h.names.turned_ hT (no1 _ _ h.namesW (by simp) (by simp))).mono_ (by show _ ≤ 64 + t.acts + 1; omega), (h.sure.turned_ hT (no1 _ _ h.sureW (by simp) (by simp))).mono_ (by show _ ≤ 64 + t.acts + 1; omega),
  h.row.turned_ hT (h.rowW.off (no _ (by simp) (by simp))), h.hrow, h.hseen, h.nil, fun i y hy => ?_, fun m hmr => ?_, h.filesW, h.namesW, h.sureW, h.rowW⟩
 ·by_cases e : i = (t.files.length : Int)
  ·rw [if_pos e] at hy
   obtain rfl := Option.some.inj hy
   exact ⟨t.files.length, Sf.noFile, e, by show (t.files ++ [Sf.noFile])[t.files.length]? = _; simp, hasX_none _ _ _⟩
  ·rw [if_neg e] at hy
   obtain ⟨m, f, h1, h2, h3⟩ := h.file i y hy
   exact ⟨m, f, h1, by show (t.files ++ [Sf.noFile])[m]? = _; rw [List.getElem?_append_left (List.getElem?_eq_some_iff.1 h2).1]; exact h2, h3.turned hT fun k hk => ⟨no _ (by simp) (by simp) k hk, no _ (by simp) (by simp) k hk, no _ (by simp) (by simp) k hk, no _ (by simp) (by simp) k hk⟩⟩
 ·by_cases e : (m : Int) = (t.files.length : Int)
  ·rw [if_pos e]; rfl
  ·rw [if_neg e]; exact h.there m hmr
theorem GoodS.more_file (h : GoodS 0 t) : GoodS 1 { t with files := t.files ++ [Sf.noFile] } := by
 have hl : (t.files ++ [Sf.noFile]).length = t.files.length + 1 := by simp
 refine ⟨h.room, by show (t.files ++ [Sf.noFile]).length ≤ 64 + t.acts + 1; rw [hl]; have := h.files; omega, by have := h.rows; show t.row.length ≤ t.acts + 1; omega, h.acts, h.fuse, h.sure, h.seen, h.row, fun d hd => ⟨(h.lens d hd).1, fun e he => by show _ < (t.files ++ [Sf.noFile]).length; rw [hl]; have := (h.lens d hd).2 e he; omega⟩, h.nums, fun f hf => ?_⟩
 rcases List.mem_append.1 hf with hf | hf
 ·have := h.frow f hf; show f.row.length ≤ t.acts + 1; omega
 ·rw [List.mem_singleton.1 hf]; show (0 : Nat) ≤ _; omega
set_option maxHeartbeats 4000000 in
set_option maxRecDepth 100000 in
theorem pcreate_any (h : PDisk w fp t b) (hf : Sf.Few t) (s : ByteArray) (hs : s.size ≤ maxLen) : Calls Tryz.prog 41 #[.pointer (some ⟨b, 0, none⟩), .string s] w (IsDeed PDisk fp b (Sf.create t s) w) := by
 have HD := Lib.hid h
 obtain ⟨who, bf, bs, bn, vr, ff, rn, h⟩ := h
 have CR := Lib.hid (prefusal_disk h)
 have CI := Lib.hid (pisname_any s hs w)
 cases hd : t.dead with
 | true =>
  have HE : Hid (Sf.create t s = (13, t)) := if_pos hd
  rw [hd] at CR
  clear h hf hd CI
  go_enter Tryz.func41, Tryz.ntmps41
  go_wp2_with fail
  refine CR.out.mono ?_
  rintro e1 w1 ⟨rfl, rfl⟩
  clear CR
  go_wp2
  go_ret
  rw [HE.out]
  exact ⟨rfl, fp, HD.out, Fp.Next.refl _ _, Turned.refl _ _⟩
 | false =>
  rw [hd] at CR
  have HE0 : Hid (Sf.create t s = if Sf.isName s = false then (2, t) else if (Sf.find t.seen s).isSome then (8, t) else if 64 ≤ t.seen.length then (3, t) else Sf.turn { t with files := t.files ++ [Sf.noFile] } (Sf.with_ t.seen s t.files.length)) := if_neg (by rw [hd]; simp)
  have h5 : w.cell? ⟨b, 5, none⟩ = some (.map (some bn)) := h.cell rfl
  have hl := h.body.names.look_ok (x := s) hs
  change (Instr.lookup 68 (.map (some bn)) (.string s) true).run Tryz.prog w = .ok (.tuple #[.int .i64 ((Sf.dirF t.seen s).getD 0), .bool (Sf.dirF t.seen s).isSome]) w at hl
  cases hi : Sf.isName s with
  | false =>
   have HE : Hid (Sf.create t s = (2, t)) := by rw [hi] at HE0; exact HE0.out.trans (if_pos rfl)
   rw [hi] at CI
   clear h hf HE0 hi hd hl h5
   go_enter Tryz.func41, Tryz.ntmps41
   go_wp2_with fail
   refine CR.out.mono ?_
   rintro e1 w1 ⟨rfl, rfl⟩
   clear CR
   go_wp2_with fail
   refine CI.out.mono ?_
   rintro e2 w2 ⟨rfl, rfl⟩
   clear CI
   go_wp2
   go_ret
   rw [HE.out]
   exact ⟨rfl, fp, HD.out, Fp.Next.refl _ _, Turned.refl _ _⟩
  | true =>
   rw [hi] at CI
   cases hfi : Sf.find t.seen s with
   | some n =>
    have HE : Hid (Sf.create t s = (8, t)) := by rw [hi, hfi] at HE0; exact HE0.out.trans ((if_neg (by simp)).trans (if_pos rfl))
    have e1 : Sf.dirF t.seen s = some (n : Int) := by unfold Sf.dirF; rw [hfi]; rfl
    rw [e1] at hl
    clear h hf HE0 hi hd hfi e1
    go_enter Tryz.func41, Tryz.ntmps41
    go_wp2_with fail
    refine CR.out.mono ?_
    rintro e1 w1 ⟨rfl, rfl⟩
    clear CR
    go_wp2_with fail
    refine CI.out.mono ?_
    rintro e2 w2 ⟨rfl, rfl⟩
    clear CI
    go_wp2
    go_ret
    rw [HE.out]
    exact ⟨rfl, fp, HD.out, Fp.Next.refl _ _, Turned.refl _ _⟩
   | none =>
    have e1 : Sf.dirF t.seen s = none := by unfold Sf.dirF; rw [hfi]; rfl
    rw [e1] at hl
    have hlen := dir_len h.body.names h.good.seen 3
    have hl64 := (h.good.lens t.seen (.inr (.inl rfl))).1
    by_cases h64 : 64 ≤ t.seen.length
    ·have HE : Hid (Sf.create t s = (3, t)) := by rw [hi, hfi] at HE0; exact HE0.out.trans ((if_neg (by simp)).trans ((if_neg (by simp)).trans (if_pos h64)))
     have h64i : (64 : Int) ≤ (t.seen.length : Int) := by omega
     clear h hf HE0 hi hd hfi e1 hl64
     go_enter Tryz.func41, Tryz.ntmps41
     go_wp2_with fail
     refine CR.out.mono ?_
     rintro e1 w1 ⟨rfl, rfl⟩
     clear CR
     go_wp2_with fail
     refine CI.out.mono ?_
     rintro e2 w2 ⟨rfl, rfl⟩
     clear CI
     go_wp2
     go_ret
     rw [HE.out]
     exact ⟨rfl, fp, HD.out, Fp.Next.refl _ _, Turned.refl _ _⟩
    ·have HE : Hid (Sf.create t s = Sf.turn { t with files := t.files ++ [Sf.noFile] } (Sf.with_ t.seen s t.files.length)) := by rw [hi, hfi] at HE0; exact HE0.out.trans ((if_neg (by simp)).trans ((if_neg (by simp)).trans (if_neg h64)))
     have h64i : ¬ (64 : Int) ≤ (t.seen.length : Int) := by omega
     have hsu := (Sf.name_size hi).2
     have hfl := h.good.files
     have hac := h.good.acts
     -- next
     have c2 : w.cell? ⟨b, 2, none⟩ = some (.int .i64 (t.files.length : Nat)) := h.cell rfl
     have z2 : w.frozen? ⟨b, 2, none⟩ = false := frozen_of_row w b 2 _ _ h.head
     have wn : IntKind.i64.wrap ((t.files.length : Int) + 1) = (t.files.length : Int) + 1 := by rw [IntKind.wrap_i64]; omega
     have nn : ((t.files.length + 1 : Nat) : Int) = (t.files.length : Int) + 1 := by omega
     have hh1 := head_setP h.head 2 (.int .i64 ((t.files.length : Int) + 1)) (C' := headP { t with files := t.files ++ [Sf.noFile] } bf bs bn vr) (by unfold headP; simp only [List.length_append, List.length_singleton]; rw [← nn]; rfl)
     have hT1 : Turned (fun k => k = b) w (w.setCell ⟨b, 2, none⟩ (.int .i64 ((t.files.length : Int) + 1))) := Turned.setCell (F := fun k => k = b) (Turned.refl (fun k => k = b) w) (p := ⟨b, 2, none⟩) (fun _ => rfl) _
     obtain ⟨w1, hw1⟩ : ∃ w1, w.setCell ⟨b, 2, none⟩ (.int .i64 ((t.files.length : Int) + 1)) = w1 := ⟨_, rfl⟩
     rw [hw1] at hh1 hT1
     have c1 : w1.cell? ⟨b, 1, none⟩ = some (.map (some bf)) := head_cellP hh1 rfl
     have hne : bf ≠ b := fun e => by have := h.body.filesW; rw [e, h.mine] at this; cases this
     have hm1 : IsMp fM w1 bf (64 + t.acts + 0) ff := h.body.files.turned_ hT1 hne
     obtain ⟨w2, hup, hm2, hg2⟩ := hm1.upd (x := (t.files.length : Int)) (by simp only [maxLen]; omega) (WalkArith.wf_i64 (by omega)) x0
     change (Instr.mapUpdate 66 (.map (some bf)) (.int .i64 (t.files.length : Nat)) (.agg #[.slice none 0 0, .slice none 0 0, .slice none 0 0])).run Tryz.prog w1 = .ok () w2 at hup
     have hT2 : Turned (fun k => k = b ∨ k = bf) w w2 := (hT1.mono fun _ _ h => .inl h).trans (Turned.of_grown hg2) (fun k _ h => .inr (Option.some.inj h).symm)
     have hF : ∀ k, (k = b ∨ k = bf) → who k = none ∨ who k = some .head ∨ who k = some .files := fun k hk => by
      rcases hk with e | e <;> rw [e]
      ·exact .inr (.inl h.mine)
      ·exact .inr (.inr h.body.filesW)
     have hP : PHas w2 fp 1 { t with files := t.files ++ [Sf.noFile] } b who bf bs bn vr (fun k => if k = (t.files.length : Int) then some x0 else ff k) rn :=
      ⟨(hg2.block b (Nat.lt_of_lt_of_le (h.lt b (by rw [h.mine]; rfl)) hT1.size) (fun e => hne (Option.some.inj e).symm)).trans hh1, h.body.more_file hT2 hF hm2, h.good.more_file, h.mine, h.m, h.r, fun k hk => Nat.lt_of_lt_of_le (h.lt k hk) hT2.size⟩
     have hNm : IsMp dM w2 bn (64 + t.acts) (Sf.dirF t.seen) := h.body.names.turned_ hT2 (fun e => by
      have := h.body.namesW
      rcases e with e | e <;> rw [e] at this
      ·rw [h.mine] at this; cases this
      ·rw [h.body.filesW] at this; cases this)
     have hD := Sf.create_doN h.good.seen hi hfi t.files.length
     have CN := Lib.hid (pdoToNames_disk hP hNm (by have := h.good.rows; show t.row.length ≤ t.acts; omega) hf ⟨ByteArray.empty, s, t.files.length⟩ (by show ByteArray.empty.size ≤ 4096; decide) (by show s.size ≤ 4096; omega) (.inr hi) (by show t.files.length < (t.files ++ [Sf.noFile]).length; simp)
      (by show (Sf.doN t.seen _).length ≤ 64; rw [hD, (Sf.with_perm _ _ _).length_eq, List.length_cons]; omega)
      (by
       show ((Sf.doN t.seen _).map _).Nodup
       rw [hD, ((Sf.with_perm _ _ _).map _).nodup_iff, List.map_cons, List.nodup_cons]
       refine ⟨fun hm => ?_, h.good.nums⟩
       obtain ⟨e, he, e2⟩ := List.mem_map.1 hm
       have := (h.good.lens t.seen (.inr (.inl rfl))).2 e he
       simp only at e2
       omega) (fun _ => by rw [if_pos rfl]; rfl))
     rw [show Sf.doN ({ t with files := t.files ++ [Sf.noFile] } : Sf.St).seen ⟨ByteArray.empty, s, t.files.length⟩ = Sf.with_ t.seen s t.files.length from hD] at CN
     change Hid (Calls _ _ #[.pointer (some ⟨b, 0, none⟩), .agg #[.string ⟨#[]⟩, .string s, .int .i64 (t.files.length : Nat)]] w2 _) at CN
     have HT2 : Hid (Turned fp.M w w2) := hT2.mono fun k _ hk => (h.m k).2 (by
      rcases hk with e | e <;> rw [e]
      ·rw [h.mine]; rfl
      ·rw [h.body.filesW]; rfl)
     clear h hf HE0 hi hd hfi e1 hl64 hsu hfl hac nn hh1 hT1 hne hm1 hm2 hg2 hT2 hF hP hNm hD h64
     go_enter Tryz.func41, Tryz.ntmps41
     go_wp2_with fail
     refine CR.out.mono ?_
     rintro e1 w1 ⟨rfl, rfl⟩
     clear CR
     go_wp2_with fail
     refine CI.out.mono ?_
     rintro e2 w2 ⟨rfl, rfl⟩
     clear CI
     go_wp2_with fail
     refine CN.out.mono ?_
     rintro e2 w3 ⟨rfl, f', hD, hN, hT⟩
     have H2 := Lib.hid hD
     have H3 := Lib.hid hN
     have H4 := Lib.hid hT
     clear CN hD hN hT
     go_wp2
     go_ret
     rw [HE.out]
     exact ⟨rfl, f', H2.out, ⟨fun k hk => (H3.out.m k hk).imp id (fun h => Nat.le_trans HT2.out.size h), fun k hk => (H3.out.r k hk).imp id (fun h => Nat.le_trans HT2.out.size h)⟩, HT2.out.trans H4.out (fun k _ h => h)⟩
end
end Go.Proofs.YtiafeniflkikeaaGreat
namespace Go.Proofs.YtiafeniflkikeaaGreat
open Go.RowKit
set_option linter.unusedVariables false
namespace Sf
def passed (d : Dir) (L : ByteArray → Bool) : Dir := d.filter fun e => !L e.1
theorem passed_none {d : Dir} {L : ByteArray → Bool} (h : ∀ e ∈ d, L e.1 = true) : passed d L = [] := by
 unfold passed
 rw [List.filter_eq_nil_iff]
 intro e he
 simp [h e he]
theorem passed_all {d : Dir} {L : ByteArray → Bool} (h : ∀ e ∈ d, L e.1 = false) : passed d L = d := by
 unfold passed
 rw [List.filter_eq_self]
 intro e he
 simp [h e he]
theorem passed_step {d : Dir} (hd : (d.map (·.1)).Nodup) {L : ByteArray → Bool} {x : ByteArray} {n : Nat} (h : (x, n) ∈ d) (hL : L x = true) : (passed d (fun z => L z && !decide (z = x))).Perm ((x, n) :: passed d L) := by
 induction d with
 | nil => cases h
 | cons e d ih =>
  rw [List.map_cons, List.nodup_cons] at hd
  unfold passed at ih ⊢
  rcases List.mem_cons.1 h with h1 | h1
  ·subst h1
   rw [List.filter_cons_of_pos (by simp), List.filter_cons_of_neg (by simp [hL])]
   refine List.Perm.cons _ ?_
   have : d.filter (fun e => !(L e.1 && !decide (e.1 = x))) = d.filter (fun e => !L e.1) := List.filter_congr fun e he => by
    have hne : e.1 ≠ x := fun e2 => hd.1 (List.mem_map.2 ⟨e, he, e2⟩)
    simp [hne]
   rw [this]
  ·have hne : e.1 ≠ x := fun e2 => hd.1 (by rw [e2]; exact List.mem_map.2 ⟨_, h1, rfl⟩)
   by_cases he : L e.1 = true
   ·rw [List.filter_cons_of_neg (by simp [he, hne]), List.filter_cons_of_neg (by simp [he])]
    exact ih hd.2 h1
   ·have he' : L e.1 = false := by simpa using he
    rw [List.filter_cons_of_pos (by simp [he']), List.filter_cons_of_pos (by simp [he'])]
    exact ((ih hd.2 h1).cons e).trans (List.Perm.swap _ _ _)
theorem passed_sub (d : Dir) (L : ByteArray → Bool) : (passed d L).Sublist d := List.filter_sublist
theorem lens_cons (t : St) (e : ByteArray × Nat) (d : Dir) : lens t (e :: d) = len t e.2 + lens t d := by unfold lens; rw [List.map_cons, List.sum_cons]
theorem lens_bound {t : St} {m : Nat} : ∀ (d : Dir), (∀ e ∈ d, len t e.2 ≤ m) → lens t d ≤ d.length * m
 | [], _ => by simp [lens]
 | e :: d, h => by
  rw [lens_cons, List.length_cons, Nat.succ_mul]
  have := h e (List.mem_cons_self ..)
  have := lens_bound d (fun e he => h e (List.mem_cons_of_mem _ he))
  omega
end Sf
theorem file_now (u v x : Value) (w : World) : (Instr.field 105 (.agg #[u, v, x]) 2).run Tryz.prog w = .ok x w := by
 simp [Instr.field, go_sem, part, run_underlying Tryz.underlying105, asAgg]
theorem wpList_next_dir (w : World) {ops : Array Oper} {rest : List Oper} {o : Oper} {a : Act} {Q : Exit → Act → World → Prop} (hg : o.guard = none) (it : Operand) (hop : o.op = Op.next it false) (b r n : Nat) (f : ByteArray → Option Int) (L : ByteArray → Bool) (cnt : Nat) (hit : a.eval it = .pointer (some ⟨r, 0, none⟩)) (h : IsRg dM w b r n f L cnt)
  (hDone : (∀ x : ByteArray, x.size ≤ maxLen → L x = false) → wpList Tryz.prog ops Q rest (a.put o.dst (.tuple #[.bool false])) w)
  (hMore : ∀ (x : ByteArray) (c : Int) (w' : World) (cnt' : Nat), x.size ≤ maxLen → L x = true → f x = some c → IsRg dM w' b r n f (fun z => L z && !decide (z = x)) cnt' → cnt' < cnt → w.grownBy w' (some r) → w'.heap.size = w.heap.size →
   (Instr.entry (.pointer (some ⟨r, 0, none⟩))).run Tryz.prog w' = .ok (.tuple #[.string x, .int .i64 c]) w' → wpList Tryz.prog ops Q rest (a.put o.dst (.tuple #[.bool true, .string x, .int .i64 c])) w') :
  wpList Tryz.prog ops Q (o :: rest) a w := wpList_next_mp w dM dM_ok hg it hop b r n f L cnt hit h hDone hMore
section
variable {w : World} {fp : Fp} {s : Nat} {t : Sf.St} {b : Nat} {who : Who} {bf bs bn : Nat} {vr : Sl} {ff : Int → Option RawX} {rn : List RawN}
theorem PHas.file_at (h : PHas w fp s t b who bf bs bn vr ff rn) {n : Nat} (hn : Reach t n) : ∃ x, ff (n : Int) = some x ∧ n < t.files.length ∧ HasX w who n x (Sf.fileAt t n) := by
 obtain ⟨x, hx⟩ := Option.isSome_iff_exists.1 (h.body.there n hn)
 obtain ⟨m, f, h1, h2, h3⟩ := h.body.file _ x hx
 have e : m = n := by omega
 subst e
 refine ⟨x, hx, (List.getElem?_eq_some_iff.1 h2).1, ?_⟩
 have : Sf.fileAt t m = f := by unfold Sf.fileAt; rw [List.getD_eq_getElem?_getD, h2]; rfl
 rw [this]
 exact h3
theorem HasX.len_le {i : Nat} {x : RawX} {f : Sf.File} (h : HasX w who i x f) : (Sf.now f).length ≤ 1048576 := by have := h.ok.len f.row.length (Nat.le_refl _); rwa [Sf.bytes_all] at this
theorem look_file {w' : World} {k : Nat} (hm : IsMp fM w' bf k ff) {n : Nat} {x : RawX} (hx : ff (n : Int) = some x) (hn : n < 9223372036854775807) : (Instr.lookup 66 (.map (some bf)) (.int .i64 (n : Nat)) false).run Tryz.prog w' = .ok (xV x) w' := by
 have := hm.look (x := (n : Int)) (WalkArith.wf_i64 (by omega))
 rw [hx] at this
 exact this
set_option maxHeartbeats 4000000 in
set_option maxRecDepth 100000 in
theorem pused_disk (h : PHas w fp s t b who bf bs bn vr ff rn) (hs4 : s ≤ 4) : Calls Tryz.prog 14 #[.pointer (some ⟨b, 0, none⟩)] w (IsNum (Sf.used t) w) := by
 have CR := Lib.hid (prefusal_disk h)
 cases hd : t.dead with
 | true =>
  have HE : Hid (Sf.used t = 0) := if_pos hd
  rw [hd] at CR
  clear h hd
  go_enter Tryz.func14, Tryz.ntmps14
  go_wp2_with fail
  refine CR.out.mono ?_
  rintro e1 w1 ⟨rfl, rfl⟩
  clear CR
  go_wp2
  go_ret
  exact ⟨by rw [HE.out]; rfl, Below.refl _ _⟩
 | false =>
  have HE : Hid (Sf.used t = Sf.lens t t.seen) := if_neg (by rw [hd]; simp)
  rw [hd] at CR
  have h5 : w.cell? ⟨b, 5, none⟩ = some (.map (some bn)) := h.cell rfl
  have h1 : w.cell? ⟨b, 1, none⟩ = some (.map (some bf)) := h.cell rfl
  have hb : b < w.heap.size := h.lt b (by rw [h.mine]; rfl)
  have hbf := h.body.files.lt_
  have hbn := h.body.names.lt_
  obtain ⟨k, hk⟩ : ∃ k, 64 + t.acts + s = k := ⟨_, rfl⟩
  have HN := h.body.names
  rw [hk] at HN
  have HNM := Lib.hid HN
  have HFM := Lib.hid h.body.files
  have HOK := Lib.hid h.good.seen
  have HL := Lib.hid (h.good.lens t.seen (.inr (.inl rfl)))
  have HFA : Hid (∀ e ∈ t.seen, ∃ x, ff (e.2 : Int) = some x ∧ e.2 < t.files.length ∧ x.now.n = Sf.len t e.2 ∧ Sf.len t e.2 ≤ 1048576) := fun e he => by
   obtain ⟨x, h1, h2, h3⟩ := h.file_at (n := e.2) ⟨t.seen, .inr (.inl rfl), e, he, rfl⟩
   exact ⟨x, h1, h2, (h3.now.form_.len_).1, h3.len_le⟩
  have HFL : Hid (t.files.length ≤ 9223372036854775807) := by have := h.good.files; have := h.good.acts; unfold Hid; omega
  have HB : Hid (b < w.heap.size ∧ bf < w.heap.size ∧ bn < w.heap.size) := ⟨hb, hbf, hbn⟩
  have HC : Hid (∀ w', Below w.heap.size w w' → w'.cell? ⟨b, 1, none⟩ = some (.map (some bf)) ∧ IsMp fM w' bf (64 + t.acts + s) ff) := fun w' hb' => ⟨(hb'.cell (p := ⟨b, 1, none⟩) hb).trans h1, h.body.files.of_block (hb'.block bf hbf)⟩
  clear h hd hb hbf hbn HN hk h1
  go_enter Tryz.func14, Tryz.ntmps14
  go_wp2_with fail
  refine CR.out.mono ?_
  rintro e1 w1 ⟨rfl, rfl⟩
  clear CR
  go_wp2_with (at_range; refine wpList_range_mp _ dM rfl _ rfl bn k _ rfl HNM.out ?_; intro w0 cnt0 hrg0 hcnt hg0 hs0)
  go_frame
  have HB0 : Hid (Below w.heap.size w w0) := (Below.refl w.heap.size w).grown hg0 (Nat.le_refl _) (fun j hj => by cases hj)
  have HR0 := Lib.hid hrg0
  clear hrg0 hg0 hs0 hcnt h5
  go_loopw [3] (fun u wr => ∃ (L : ByteArray → Bool) (cnt : Nat), Hid (IsRg dM wr bn w.heap.size k (Sf.dirF t.seen) L cnt) ∧ u = .int .i64 (Sf.lens t (Sf.passed t.seen L) : Nat) ∧ Hid (Below w.heap.size w wr)) (fun _ wr => wr.rangeLeft bn w.heap.size)
  case atStart =>
   refine ⟨_, cnt0, HR0.out, ?_, HB0.out⟩
   rw [Sf.passed_none (fun e he => by
    unfold Sf.dirF
    rw [HOK.out.find.2 (show (e.1, e.2) ∈ t.seen from he)]
    rfl)]
   rfl
  case round =>
   obtain ⟨L, cnt, HRG, rfl, HBW⟩ := hrel
   clear HR0 HB0
   go_wp2_with (at_next; refine wpList_next_dir _ rfl _ rfl bn w.heap.size k _ L cnt rfl HRG.out ?_ ?_)
   ·intro hl0
    have HP : Hid (Sf.passed t.seen L = t.seen) := Sf.passed_all fun e he => hl0 e.1 (Sf.name_max (HOK.out.name e he))
    clear hl0
    go_wp2
    go_ret
    exact ⟨by rw [HE.out, HP.out]; rfl, HBW.out⟩
   ·intro x c w1 cnt1 hx hLx hfx hrg1 hlt hg1 hs1 hen
    obtain ⟨n, hfd, rfl⟩ : ∃ n : Nat, Sf.find t.seen x = some n ∧ (n : Int) = c := by
     unfold Sf.dirF at hfx
     obtain ⟨n, h1, h2⟩ := Option.map_eq_some_iff.1 hfx
     exact ⟨n, h1, h2⟩
    have hm := HOK.out.find.1 hfd
    obtain ⟨y, hy, hyl, hyn, hym⟩ := HFA.out _ hm
    simp only at hy hyl hyn hym
    have hyi : n < 9223372036854775807 := Nat.lt_of_lt_of_le hyl HFL.out
    have hb1 : Below w.heap.size w w1 := HBW.out.grown hg1 HBW.out.size (fun j hj => by rw [← Option.some.inj hj]; exact Nat.le_refl _)
    obtain ⟨c1, hmp⟩ := HC.out w1 hb1
    have hlk := look_file hmp hy hyi
    have hst := Sf.passed_step HOK.out.nodup hm hLx
    have hle : Sf.lens t (Sf.passed t.seen L) ≤ 67108864 := by
     have h1 := Sf.lens_bound (t := t) (m := 1048576) (Sf.passed t.seen L) (fun e he => by
      obtain ⟨_, _, _, _, h⟩ := HFA.out e ((Sf.passed_sub _ _).subset he)
      exact h)
     have h2 := (Sf.passed_sub t.seen L).length_le
     have h3 := HL.out.1
     have h4 : (Sf.passed t.seen L).length * 1048576 ≤ 64 * 1048576 := Nat.mul_le_mul_right _ (by omega)
     omega
    have HSUM : Hid (Sf.lens t (Sf.passed t.seen (fun z => L z && !decide (z = x))) = Sf.lens t (Sf.passed t.seen L) + Sf.len t n) := by
     unfold Hid
     rw [Sf.lens_perm hst, Sf.lens_cons, Nat.add_comm]
    obtain ⟨m, hmm⟩ : ∃ m, Sf.lens t (Sf.passed t.seen L) = m := ⟨_, rfl⟩
    obtain ⟨q, hq⟩ : ∃ q, Sf.len t n = q := ⟨_, rfl⟩
    rw [hmm] at HSUM hle
    rw [hmm]
    rw [hq] at HSUM hyn hym
    have wsum : IntKind.i64.wrap ((m : Int) + (q : Int)) = (m : Int) + (q : Int) := by rw [IntKind.wrap_i64]; omega
    obtain ⟨⟨a1, a2, a3⟩, ⟨a4, a5, a6⟩, ⟨a7, a8, a9⟩⟩ := y
    simp only at hyn
    subst hyn
    change (Instr.lookup 66 (.map (some bf)) (.int .i64 (n : Nat)) false).run Tryz.prog w1 = .ok (.agg #[.slice a1 a2 a3, .slice a4 a5 a6, .slice a7 a8 a9]) w1 at hlk
    have HRG1 := Lib.hid hrg1
    have HB1 := Lib.hid hb1
    have HLT := Lib.hid hlt
    have HLE := Lib.hid (HRG.out.left_eq)
    clear hmm hq hle hst hmp hb1 hg1 hs1 hrg1 hlt hm hy hfd hfx hyl HRG HBW hLx hx
    have hfd := fun w => file_now (.slice a1 a2 a3) (.slice a4 a5 a6) (.slice a7 a8 a9) w
    go_wp2
    go_roundw
    case rel => exact ⟨_, cnt1, HRG1.out, by rw [HSUM.out]; go_num, HB1.out⟩
    case measure => rw [HRG1.out.left_eq, HLE.out]; exact HLT.out
end
end Go.Proofs.YtiafeniflkikeaaGreat
namespace Go.Proofs.YtiafeniflkikeaaGreat
open Go.RowKit
set_option linter.unusedVariables false
namespace Sf
def placeOf (t : St) (s : ByteArray) (a : Int) : Nat × Nat := if (get t s).2 ≠ 0 then (0, (get t s).2) else if a < 0 ∨ (len t (get t s).1 : Int) < a then (0, 2) else ((get t s).1, 0)
theorem len_used_p {t : St} {s : ByteArray} {k : Nat} (h : get t s = (k, 0)) : len t k ≤ used t := by
 obtain ⟨hd, hf⟩ := get_ok (t := t) (s := s) (by rw [h])
 rw [h] at hf
 rw [used_lens hd]
 have := lens_sub (t := t) (List.singleton_sublist.2 (find_mem hf))
 simpa [lens] using this
end Sf
section
variable {w : World} {fp : Fp} {s : Nat} {t : Sf.St} {b : Nat} {who : Who} {bf bs bn : Nat} {vr : Sl} {ff : Int → Option RawX} {rn : List RawN}
theorem PHas.look (h : PHas w fp s t b who bf bs bn vr ff rn) (hs4 : s ≤ 4) {u : ByteArray} {k : Nat} (hg : Sf.get t u = (k, 0)) :
  ∃ x, ff (k : Int) = some x ∧ k < t.files.length ∧ HasX w who k x (Sf.fileAt t k) ∧ x.now.n = Sf.len t k ∧ Sf.len t k ≤ 1048576 ∧ Sf.len t k ≤ x.now.c ∧ x.now.c ≤ maxLen ∧ (Instr.lookup 66 (.map (some bf)) (.int .i64 (k : Nat)) false).run Tryz.prog w = .ok (.agg #[slV x.sure, slV x.row, slV x.now]) w := by
 obtain ⟨x, h1, h2, h3⟩ := h.file_of hg
 obtain ⟨e1, e2, e3⟩ := h3.now.form_.len_
 exact ⟨x, h1, h2, h3, e1, h3.len_le, e2, e3, look_file h.body.files h1 (by have := h.good.files; have := h.good.acts; omega)⟩
set_option maxHeartbeats 2000000 in
set_option maxRecDepth 100000 in
theorem pfindPlace_disk (h : PHas w fp s t b who bf bs bn vr ff rn) (hs4 : s ≤ 4) (u : ByteArray) (hu : u.size ≤ maxLen) (a : Int) :
  Calls Tryz.prog 119 #[.pointer (some ⟨b, 0, none⟩), .string u, .int .i64 a] w (fun e w' => e = .returned (.tuple #[.int .i64 ((Sf.placeOf t u a).1 : Nat), .int .i64 ((Sf.placeOf t u a).2 : Nat)]) ∧ w = w') := by
 have CF := Lib.hid (pfind_disk h u hu)
 have c1 : w.cell? ⟨b, 1, none⟩ = some (.map (some bf)) := h.cell rfl
 obtain ⟨k, er, hge⟩ : ∃ k er, Sf.get t u = (k, er) := ⟨_, _, rfl⟩
 have HE0 : Hid (Sf.placeOf t u a = if er ≠ 0 then (0, er) else if a < 0 ∨ (Sf.len t k : Int) < a then (0, 2) else (k, 0)) := by unfold Hid Sf.placeOf; rw [hge]
 rw [hge] at CF
 by_cases he : er = 0
 ·subst he
  have HE1 := Lib.hid (HE0.out.trans (if_neg (by simp)))
  obtain ⟨x, _, _, _, hn, _, _, _, hlk⟩ := h.look hs4 hge
  obtain ⟨⟨a1, a2, a3⟩, ⟨a4, a5, a6⟩, ⟨a7, a8, a9⟩⟩ := x
  simp only [slV] at hn hlk
  obtain ⟨m, hm⟩ : ∃ m, Sf.len t k = m := ⟨_, rfl⟩
  rw [hm] at HE1 hn
  subst hn
  have hfd := fun w => file_now (.slice a1 a2 a3) (.slice a4 a5 a6) (.slice a7 a8 a9) w
  clear h hge hm HE0
  by_cases h0 : a < 0
  ·have HE : Hid (Sf.placeOf t u a = (0, 2)) := HE1.out.trans (if_pos (.inl h0))
   clear HE1
   go_enter Tryz.func119, Tryz.ntmps119
   go_wp2_with fail
   refine CF.out.mono ?_
   rintro e1 w1 ⟨rfl, rfl⟩
   clear CF
   go_wp2
   go_ret2
   rw [HE.out]
   exact ⟨rfl, rfl⟩
  ·by_cases h1 : (a8 : Int) < a
   ·have HE : Hid (Sf.placeOf t u a = (0, 2)) := HE1.out.trans (if_pos (.inr h1))
    clear HE1
    go_enter Tryz.func119, Tryz.ntmps119
    go_wp2_with fail
    refine CF.out.mono ?_
    rintro e1 w1 ⟨rfl, rfl⟩
    clear CF
    go_wp2
    go_ret2
    rw [HE.out]
    exact ⟨rfl, rfl⟩
   ·have HE : Hid (Sf.placeOf t u a = (k, 0)) := HE1.out.trans (if_neg (by omega))
    clear HE1
    go_enter Tryz.func119, Tryz.ntmps119
    go_wp2_with fail
    refine CF.out.mono ?_
    rintro e1 w1 ⟨rfl, rfl⟩
    clear CF
    go_wp2
    go_ret2
    rw [HE.out]
    exact ⟨rfl, rfl⟩
 ·have hq : ((er : Int) != 0) = true := by rw [bne_iff_ne]; omega
  have HE : Hid (Sf.placeOf t u a = (0, er)) := HE0.out.trans (if_pos he)
  clear h hge HE0 he c1
  go_enter Tryz.func119, Tryz.ntmps119
  go_wp2_with fail
  refine CF.out.mono ?_
  rintro e1 w1 ⟨rfl, rfl⟩
  clear CF
  go_wp2
  go_ret2
  rw [HE.out]
  exact ⟨rfl, rfl⟩
set_option maxHeartbeats 2000000 in
set_option maxRecDepth 100000 in
theorem psizeOf_any (h : PDisk w fp t b) (u : ByteArray) (hu : u.size ≤ maxLen) : Calls Tryz.prog 15 #[.pointer (some ⟨b, 0, none⟩), .string u] w (IsNE (Sf.size t u) w) := by
 obtain ⟨who, bf, bs, bn, vr, ff, rn, h⟩ := h
 have CF := Lib.hid (pfind_disk h u hu)
 have c1 : w.cell? ⟨b, 1, none⟩ = some (.map (some bf)) := h.cell rfl
 obtain ⟨k, er, hge⟩ : ∃ k er, Sf.get t u = (k, er) := ⟨_, _, rfl⟩
 have HE0 : Hid (Sf.size t u = if er ≠ 0 then (0, er) else (Sf.len t k, 0)) := by unfold Hid Sf.size; rw [hge]
 rw [hge] at CF
 by_cases he : er = 0
 ·subst he
  have HE := Lib.hid (HE0.out.trans (if_neg (by simp)))
  obtain ⟨x, _, _, _, hn, _, _, _, hlk⟩ := h.look (Nat.zero_le _) hge
  obtain ⟨⟨a1, a2, a3⟩, ⟨a4, a5, a6⟩, ⟨a7, a8, a9⟩⟩ := x
  simp only [slV] at hn hlk
  have HN := Lib.hid hn
  have hfd := fun w => file_now (.slice a1 a2 a3) (.slice a4 a5 a6) (.slice a7 a8 a9) w
  clear h hge HE0 hn
  go_enter Tryz.func15, Tryz.ntmps15
  go_wp2_with fail
  refine CF.out.mono ?_
  rintro e1 w1 ⟨rfl, rfl⟩
  clear CF
  go_wp2
  go_ret2
  rw [HE.out]
  exact ⟨by rw [HN.out]; rfl, Below.refl _ _⟩
 ·have hq : ((er : Int) != 0) = true := by rw [bne_iff_ne]; omega
  have HE : Hid (Sf.size t u = (0, er)) := HE0.out.trans (if_pos he)
  clear h hge HE0 he c1
  go_enter Tryz.func15, Tryz.ntmps15
  go_wp2_with fail
  refine CF.out.mono ?_
  rintro e1 w1 ⟨rfl, rfl⟩
  clear CF
  go_wp2
  go_ret2
  rw [HE.out]
  exact ⟨rfl, Below.refl _ _⟩
set_option maxHeartbeats 4000000 in
set_option maxRecDepth 100000 in
theorem pread_any (h : PDisk w fp t b) (u : ByteArray) (hu : u.size ≤ maxLen) (a n : Int) (ha : I64 a) (hn : I64 n) : Calls Tryz.prog 36 #[.pointer (some ⟨b, 0, none⟩), .string u, .int .i64 a, .int .i64 n] w (IsLE yK (Sf.read t u a n) w) := by
 obtain ⟨who, bf, bs, bn, vr, ff, rn, h⟩ := h
 have CF := Lib.hid (pfind_disk h u hu)
 have c1 : w.cell? ⟨b, 1, none⟩ = some (.map (some bf)) := h.cell rfl
 obtain ⟨k, er, hge⟩ : ∃ k er, Sf.get t u = (k, er) := ⟨_, _, rfl⟩
 have HE0 : Hid (Sf.read t u a n = if er ≠ 0 then ([], er) else if a < 0 ∨ (Sf.len t k : Int) < a ∨ n < 0 then ([], 2) else (((Sf.now (Sf.fileAt t k)).drop a.toNat).take n.toNat, 0)) := by unfold Hid Sf.read; rw [hge]
 rw [hge] at CF
 by_cases he : er = 0
 ·subst he
  have HE1 := Lib.hid (HE0.out.trans (if_neg (by simp)))
  obtain ⟨x, _, _, hX, hxn, hl20, hxc, hxm, hlk⟩ := h.look (Nat.zero_le _) hge
  have hnow := hX.now.form_
  obtain ⟨⟨a1, a2, a3⟩, ⟨a4, a5, a6⟩, ⟨a7, a8, a9⟩⟩ := x
  simp only [slV] at hxn hlk hnow hxc hxm
  have HNW := Lib.hid hnow
  have HLN : Hid ((Sf.now (Sf.fileAt t k)).length = a8) := hxn.symm
  have hfd := fun w => file_now (.slice a1 a2 a3) (.slice a4 a5 a6) (.slice a7 a8 a9) w
  obtain ⟨m, hm⟩ : ∃ m, Sf.len t k = m := ⟨_, rfl⟩
  rw [hm] at HE1 hxn hl20 hxc
  subst hxn
  obtain ⟨l, hl⟩ : ∃ l, Sf.now (Sf.fileAt t k) = l := ⟨_, rfl⟩
  rw [hl] at HE1 HNW HLN
  clear h hge hm HE0 hX hnow hl
  have bad : ∀ (hE : Sf.read t u a n = ([], 2)) (hor : a < 0 ∨ (a8 : Int) < a ∨ n < 0), Calls Tryz.prog 36 #[.pointer (some ⟨b, 0, none⟩), .string u, .int .i64 a, .int .i64 n] w (IsLE yK (Sf.read t u a n) w) := fun hE hor => by
   have HE := Lib.hid hE
   clear hE HE1
   by_cases h0 : a < 0
   ·clear hor
    go_enter Tryz.func36, Tryz.ntmps36
    go_wp2_with fail
    refine CF.out.mono ?_
    rintro e1 w1 ⟨rfl, rfl⟩
    clear CF
    go_wp2
    go_ret2
    exact IsLE.none_ HE.out rfl
   ·by_cases h1 : (a8 : Int) < a
    ·clear hor
     go_enter Tryz.func36, Tryz.ntmps36
     go_wp2_with fail
     refine CF.out.mono ?_
     rintro e1 w1 ⟨rfl, rfl⟩
     clear CF
     go_wp2
     go_ret2
     exact IsLE.none_ HE.out rfl
    ·have h2 : n < 0 := by omega
     clear hor
     go_enter Tryz.func36, Tryz.ntmps36
     go_wp2_with fail
     refine CF.out.mono ?_
     rintro e1 w1 ⟨rfl, rfl⟩
     clear CF
     go_wp2
     go_ret2
     exact IsLE.none_ HE.out rfl
  by_cases hor : a < 0 ∨ (a8 : Int) < a ∨ n < 0
  ·exact bad (HE1.out.trans (if_pos hor)) hor
  ·have HE := Lib.hid (HE1.out.trans (if_neg hor))
   have h0 : ¬ a < 0 := fun h => hor (.inl h)
   have h1 : ¬ (a8 : Int) < a := fun h => hor (.inr (.inl h))
   have h2 : ¬ n < 0 := fun h => hor (.inr (.inr h))
   clear bad HE1 hor
   obtain ⟨p, rfl⟩ : ∃ p : Nat, (p : Int) = a := ⟨a.toNat, by omega⟩
   obtain ⟨q, rfl⟩ : ∃ q : Nat, (q : Int) = n := ⟨n.toNat, by omega⟩
   rw [Int.toNat_natCast, Int.toNat_natCast] at HE
   obtain ⟨A', k1, k2, hdr, _⟩ := cut_from yK rfl a7 a8 a9 p (by omega) hxc
   change ∀ w, (Instr.slice 40 (.slice a7 a8 a9) (some (.int .i64 (p : Nat))) none none).run Tryz.prog w = .ok (.slice A' (a8 - p) (a9 - p)) w at k1
   change ∀ w, (Instr.sliceAt 40 (.slice a7 a8 a9) (some (.int .i64 (p : Nat))) none none).run Tryz.prog w = .ok (.slice A' (a8 - p) (a9 - p)) w at k2
   have hd := hdr w w.heap.size l HNW.out
   have hlen := HLN.out
   have HG : Hid (∀ g, g ≤ a8 - p → (∀ w, (Instr.slice 40 (.slice A' (a8 - p) (a9 - p)) none (some (.int .i64 (g : Nat))) none).run Tryz.prog w = .ok (.slice A' g (a9 - p)) w) ∧ (∀ w, (Instr.sliceAt 40 (.slice A' (a8 - p) (a9 - p)) none (some (.int .i64 (g : Nat))) none).run Tryz.prog w = .ok (.slice A' g (a9 - p)) w) ∧
     Calls Tryz.prog 58 #[.slice A' g (a9 - p)] w (IsL1 yK ((l.drop p).take g) w)) := fun g hg => by
    have htk := hd.take_ (k := g) (by rw [List.length_drop]; omega)
    exact ⟨fun w => cut_to yK rfl A' (a8 - p) (a9 - p) g (by omega) w, fun w => cutAt_to yK rfl A' (a8 - p) (a9 - p) g (by omega) w, pbclone_any _ _ w.heap.size w htk (Nat.le_refl _) (by rw [List.length_take, List.length_drop]; omega)⟩
   have nsub : ((a8 - p : Nat) : Int) = (a8 : Int) - (p : Int) := by omega
   clear hd hdr HNW
   by_cases hqq : (a8 : Int) - (p : Int) < (q : Int)
   ·obtain ⟨k3, k4, hcl⟩ := HG.out (a8 - p) (Nat.le_refl _)
    rw [nsub] at k3 k4
    have HLE : Hid ((l.drop p).take (a8 - p) = (l.drop p).take q) := by
     unfold Hid
     rw [List.take_of_length_le (by rw [List.length_drop]; omega), List.take_of_length_le (by rw [List.length_drop]; omega)]
    rw [HLE.out] at hcl
    obtain ⟨D, hD⟩ : ∃ D, (l.drop p).take q = D := ⟨_, rfl⟩
    rw [hD] at hcl HE
    have CB := Lib.hid hcl
    have hmt : (min (q : Int) ((a8 - p : Nat) : Int)).toNat = a8 - p := by omega
    clear HG hcl HLN hlen nsub HLE hD
    go_enter Tryz.func36, Tryz.ntmps36
    go_wp2_with fail
    refine CF.out.mono ?_
    rintro e1 w1 ⟨rfl, rfl⟩
    clear CF
    go_wp2_with fail
    refine CB.out.mono ?_
    rintro e2 w2 ⟨A2, c2, rfl, ho, hb⟩
    have HO := Lib.hid ho
    have HB := Lib.hid hb
    clear CB ho hb
    go_wp2
    go_ret2
    exact IsLE.of HE.out rfl rfl HO.out HB.out
   ·obtain ⟨k3, k4, hcl⟩ := HG.out q (by omega)
    obtain ⟨D, hD⟩ : ∃ D, (l.drop p).take q = D := ⟨_, rfl⟩
    rw [hD] at hcl HE
    have CB := Lib.hid hcl
    have hmt : (min (q : Int) ((a8 - p : Nat) : Int)).toNat = q := by omega
    clear HG hcl HLN hlen nsub hD
    go_enter Tryz.func36, Tryz.ntmps36
    go_wp2_with fail
    refine CF.out.mono ?_
    rintro e1 w1 ⟨rfl, rfl⟩
    clear CF
    go_wp2_with fail
    refine CB.out.mono ?_
    rintro e2 w2 ⟨A2, c2, rfl, ho, hb⟩
    have HO := Lib.hid ho
    have HB := Lib.hid hb
    clear CB ho hb
    go_wp2
    go_ret2
    exact IsLE.of HE.out rfl rfl HO.out HB.out
 ·have hq : ((er : Int) != 0) = true := by rw [bne_iff_ne]; omega
  have HE : Hid (Sf.read t u a n = ([], er)) := HE0.out.trans (if_pos he)
  clear h hge HE0 he c1
  go_enter Tryz.func36, Tryz.ntmps36
  go_wp2_with fail
  refine CF.out.mono ?_
  rintro e1 w1 ⟨rfl, rfl⟩
  clear CF
  go_wp2
  go_ret2
  exact IsLE.none_ HE.out rfl
end
end Go.Proofs.YtiafeniflkikeaaGreat
namespace Go.Proofs.YtiafeniflkikeaaGreat
open Go.RowKit
set_option linter.unusedVariables false
def cV (c : RawC) : Value := .agg #[.int .i64 (c.at_ : Nat), .slice c.sl.A c.sl.n c.sl.c, .bool c.cut]
def IsDone (v : Value) (base : Nat) (l : List Nat) (w : World) (e : Ending) (w' : World) : Prop :=
 ∃ A c, e = .returned (.slice A l.length c) ∧ OwnL yK w' base (.slice A l.length c) l ∧ w.grownBy w' v.ownBlock ∧ Moved w v (.slice A l.length c)
theorem OwnL.cutOff {P : Program} {α : Type} {K : El P α} {w : World} {base n c k : Nat} {A : Option Addr} {l : List α} (h : OwnL K w base (.slice A n c) l) (hk : k ≤ l.length) : OwnL K w base (.slice A k c) (l.take k) := by
 cases A with
 | none =>
  rcases h.2 with ⟨e, rfl⟩ | ⟨g, s, e, _⟩
  ·injection e with _ e2 e3
   subst e2 e3
   have : k = 0 := by simpa using hk
   subst this
   exact OwnL.nil_ _ _ _
  ·cases e
 | some a =>
  rcases h.2 with ⟨e, _⟩ | ⟨g, s, e, _⟩
  ·cases e
  ·injection e with e1 e2 e3
   injection e1 with e1
   subst e1
   exact h.take_ hk
theorem own_ne {P : Program} {α : Type} {K : El P α} {w : World} {base b : Nat} {v : Value} {l : List α} {cs : Array Value} {T : TypeId} {fr : Nat × Nat} (h : OwnL K w base v l) (hb : w.heap[b]? = some (.cells cs T fr)) (hT : T ≠ K.e) : v.ownBlock ≠ some b := by
 intro e
 rcases h.2 with ⟨rfl, _⟩ | ⟨g, s, rfl, _, _, _, hh⟩
 ·cases e
 ·have eg : g = b := Option.some.inj e
  subst eg
  rw [hb] at hh
  injection hh with hh
  injection hh with _ hh _
  exact hT hh
set_option maxHeartbeats 2000000 in
set_option maxRecDepth 100000 in
theorem pcdo_any (c : RawC) (v : Value) (l : List Nat) (base B : Nat) (m : List Nat) (w : World) (hv : OwnL yK w base v l) (hm : Lv yK w B (slV c.sl) m) (hap : 0 < m.length → Apart (slV c.sl) v) (ha : c.at_ ≤ l.length) (hl : l.length ≤ 1099511627776) (hml : m.length ≤ 1099511627776) (hbase : base ≤ w.heap.size) (hB : B ≤ w.heap.size) :
  Calls Tryz.prog 101 #[cV c, v] w (IsDone v base (Sf.done l ⟨c.cut, c.at_, m⟩) w) := by
 obtain ⟨at_, ⟨Ac, nc, cc⟩, cut⟩ := c
 simp only [slV] at hm hap ha
 obtain ⟨A, cv, rfl, hc1, hc2, _, _⟩ := hv.form_
 change Calls _ _ #[.agg #[.int .i64 (at_ : Nat), .slice Ac nc cc, .bool cut], .slice A l.length cv] w _
 obtain ⟨w1, hw1⟩ : ∃ w1, w.alloc (.cells #[.int .i64 (at_ : Nat), .slice Ac nc cc, .bool cut] 153) = w1 := ⟨_, rfl⟩
 have hbx := heap_alloc_new w (.cells #[.int .i64 (at_ : Nat), .slice Ac nc cc, .bool cut] 153)
 have hbb : Below w.heap.size w (w.alloc (.cells #[.int .i64 (at_ : Nat), .slice Ac nc cc, .bool cut] 153)) := (Below.refl _ _).alloc (Nat.le_refl _) _
 have hgr : w.grownBy (w.alloc (.cells #[.int .i64 (at_ : Nat), .slice Ac nc cc, .bool cut] 153)) none := World.grownBy_alloc w _ none
 have hsz : w1.heap.size = w.heap.size + 1 := by rw [← hw1]; simp
 rw [hw1] at hbx hbb hgr
 have hv1 : OwnL yK w1 base (.slice A l.length cv) l := hv.below_ hbb (Nat.le_refl _)
 have hm1 : Lv yK w1 B (.slice Ac nc cc) m := hm.below_ hbb hB
 have h0 : w1.cell? ⟨w.heap.size, 0, none⟩ = some (.int .i64 (at_ : Nat)) := by rw [cell_of_row _ _ 0 _ _ _ hbx]; rfl
 have h1 : w1.cell? ⟨w.heap.size, 1, none⟩ = some (.slice Ac nc cc) := by rw [cell_of_row _ _ 1 _ _ _ hbx]; rfl
 have h2 : w1.cell? ⟨w.heap.size, 2, none⟩ = some (.bool cut) := by rw [cell_of_row _ _ 2 _ _ _ hbx]; rfl
 have HV := Lib.hid hv1
 have HM := Lib.hid hm1
 have HG := Lib.hid hgr
 have HBX := Lib.hid hbx
 cases cut with
 | true =>
  have HE : Hid (Sf.done l ⟨true, at_, m⟩ = l.take at_) := if_pos rfl
  have k1 := fun w => cut_to yK rfl A l.length cv at_ (by omega) w
  have k2 := fun w => cutAt_to yK rfl A l.length cv at_ (by omega) w
  change ∀ w, (Instr.slice 40 (.slice A l.length cv) none (some (.int .i64 (at_ : Nat))) none).run Tryz.prog w = .ok (.slice A at_ cv) w at k1
  change ∀ w, (Instr.sliceAt 40 (.slice A l.length cv) none (some (.int .i64 (at_ : Nat))) none).run Tryz.prog w = .ok (.slice A at_ cv) w at k2
  have HT : Hid ((l.take at_).length = at_) := by unfold Hid; rw [List.length_take]; omega
  have HO := Lib.hid (hv1.cutOff (k := at_) ha)
  clear hv hm hv1 hm1 hbx hbb hgr hap
  go_enter Tryz.func101, Tryz.ntmps101
  go_wp2
  go_ret
  rw [HE.out]
  refine ⟨A, cv, by rw [HT.out]; rfl, by rw [HT.out]; exact HO.out, ?_, ?_⟩
  ·exact ⟨HG.out.os, HG.out.tape, HG.out.output, HG.out.size, fun k hk _ => HG.out.block k hk (by simp)⟩
  ·rw [HT.out]
   intro k hk
   refine .inl ?_
   cases A <;> exact hk
 | false =>
  obtain ⟨A', w2, k1, k2, hcp, hown, hg2⟩ := copy_at (w := w1.drew) (hv1.drew_) at_ ha (hm1.drew_)
  obtain ⟨q, hq⟩ : ∃ q, Nat.min m.length (l.length - at_) = q := ⟨_, rfl⟩
  have hq1 : q ≤ m.length := by rw [← hq]; exact Nat.min_le_left _ _
  have hq2 : q ≤ l.length - at_ := by rw [← hq]; exact Nat.min_le_right _ _
  have hq3 : q = m.length ∨ q = l.length - at_ := by
   rcases Nat.le_total m.length (l.length - at_) with h | h
   ·exact .inl (by rw [← hq]; exact Nat.min_eq_left h)
   ·exact .inr (by rw [← hq]; exact Nat.min_eq_right h)
  rw [hq] at hcp hown
  replace hg2 : w1.grownBy w2 (Value.slice A l.length cv).ownBlock := ⟨hg2.os, hg2.tape, hg2.output, hg2.size, hg2.block⟩
  have HD : Hid ((l.take at_ ++ m.take q ++ l.drop (at_ + q)) ++ m.drop q = Sf.done l ⟨false, at_, m⟩) := by
   show _ = l.take at_ ++ m ++ l.drop (at_ + m.length)
   rcases hq3 with h | h
   ·rw [h, List.drop_length, List.take_length, List.append_nil]
   ·rw [List.drop_of_length_le (l := l) (i := at_ + q) (by omega), List.drop_of_length_le (l := l) (i := at_ + m.length) (by omega), List.append_nil, List.append_nil, List.append_assoc, List.take_append_drop]
  have HL : Hid ((l.take at_ ++ m.take q ++ l.drop (at_ + q)).length = l.length) := by unfold Hid; simp; omega
  obtain ⟨L2, hL2⟩ : ∃ L2, l.take at_ ++ m.take q ++ l.drop (at_ + q) = L2 := ⟨_, rfl⟩
  rw [hL2] at HD HL hown
  clear hL2
  have HLS : Hid (L2.length + (m.length - q) = (Sf.done l ⟨false, at_, m⟩).length) := by unfold Hid; rw [← HD.out, List.length_append, List.length_drop]
  have hm2 : Lv yK w2 B (.slice Ac nc cc) m := hm1.turnedB_ (Turned.of_grown hg2) fun hp k hk e => hap hp k hk e
  obtain ⟨en, hcn, hcm⟩ := hm.len_
  subst en
  obtain ⟨A2, k3, k4, hdrop, _⟩ := cut_from yK rfl Ac m.length cc q hq1 hcn
  change ∀ w, (Instr.slice 40 (.slice Ac m.length cc) (some (.int .i64 (q : Nat))) none none).run Tryz.prog w = .ok (.slice A2 (m.length - q) (cc - q)) w at k3
  change ∀ w, (Instr.sliceAt 40 (.slice Ac m.length cc) (some (.int .i64 (q : Nat))) none none).run Tryz.prog w = .ok (.slice A2 (m.length - q) (cc - q)) w at k4
  have HM2 := Lib.hid (hdrop _ _ _ hm2)
  have HO2 := Lib.hid hown
  have HG2 := Lib.hid hg2
  have b1 : w2.cell? ⟨w.heap.size, 1, none⟩ = some (.slice Ac m.length cc) := by
   have hb2 : w2.heap[w.heap.size]? = w1.heap[w.heap.size]? := hg2.block _ (by omega) (fun e => by have := (hv.lt_ w.heap.size e.symm).2; omega)
   rw [cell_of_row _ _ 1 _ _ _ (hb2.trans hbx)]; rfl
  have HML : Hid (m.length ≤ 1099511627776 ∧ l.length ≤ 1099511627776) := ⟨hml, hl⟩
  have HDL : Hid ((m.drop q).length = m.length - q) := by unfold Hid; rw [List.length_drop]
  have HBS : Hid (base ≤ w2.heap.size) := by have := hg2.size; unfold Hid; omega
  have HLT : Hid (∀ k, (Value.slice A l.length cv).ownBlock = some k → k < w.heap.size) := fun k hk => (hv.lt_ k hk).2
  have h0d : w1.drew.cell? ⟨w.heap.size, 0, none⟩ = some (.int .i64 (at_ : Nat)) := h0
  have h1d : w1.drew.cell? ⟨w.heap.size, 1, none⟩ = some (.slice Ac m.length cc) := h1
  clear hv hm hv1 hm1 hbx hbb hgr hap hm2 hdrop hown hg2 hq hq3 hcm
  go_enter Tryz.func101, Tryz.ntmps101
  go_wp2
  go_still_tail 6, (by kernel_rfl)
  change wpList _ _ _ _ _ w1.drew
  go_wp2_with (at_builtin; go_must (refine wpList_append_m _ yK rfl _ _ rfl base _ rfl _ HO2.out _ rfl B (m.drop q) HM2.out (by rw [HL.out, HDL.out]; show _ * 1 ≤ _; have := HML.out; omega) (by rw [HL.out, HDL.out]; have := HML.out; simp only [maxLen]; omega) HBS.out ?_; intro A3 c3 w3 hA hG hMv))
  rw [HD.out] at hA hMv
  go_ret
  refine ⟨A3, c3, by rw [← HLS.out]; rfl, hA, ?_, ?_⟩
  ·exact ⟨hG.os.trans (HG2.out.os.trans HG.out.os), hG.tape.trans (HG2.out.tape.trans HG.out.tape), hG.output.trans (HG2.out.output.trans HG.out.output), Nat.le_trans HG.out.size (Nat.le_trans HG2.out.size hG.size), fun k hk hne => (hG.block k (Nat.lt_of_lt_of_le hk (Nat.le_trans HG.out.size HG2.out.size)) hne).trans ((HG2.out.block k (Nat.lt_of_lt_of_le hk HG.out.size) hne).trans (HG.out.block k hk (by simp)))⟩
  ·intro k hk
   rcases hMv k hk with h | h
   ·exact .inl h
   ·have := HG2.out.size
    exact .inr (by omega)
end Go.Proofs.YtiafeniflkikeaaGreat
