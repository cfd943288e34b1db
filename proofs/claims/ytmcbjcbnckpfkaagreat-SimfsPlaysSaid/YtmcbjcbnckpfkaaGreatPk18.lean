/-
  PfNb: simfs: Remove, Rename.
  PfCr: simfs: Create.
  PfF: simfs: doToFile.
-/
import Derived.Test.YtmcbjcbnckpfkaaGreatPk17
import Derived.Test.YtmcbjcbnckpfkaaGreatPk16
import Derived.Test.YtmcbjcbnckpfkaaGreatPk15
import Derived.Test.YtmcbjcbnckpfkaaGreatPk07
namespace Go.Proofs.YtmcbjcbnckpfkaaGreat
open Go.RowKit
set_option linter.unusedVariables false
namespace Sf
theorem snd_inj {d : Dir} (h : (d.map (·.2)).Nodup) {x y : ByteArray × Nat} (hx : x ∈ d) (hy : y ∈ d) (e : x.2 = y.2) : x = y := by
  induction d with
  | nil => cases hx
  | cons z d ih =>
    rw [List.map_cons, List.nodup_cons] at h
    rcases List.mem_cons.1 hx with h1 | h1
    · rcases List.mem_cons.1 hy with h2 | h2
      · rw [h1, h2]
      · exact absurd (List.mem_map.2 ⟨y, h2, by rw [← e, h1]⟩ : z.2 ∈ List.map (·.2) d) h.1
    · rcases List.mem_cons.1 hy with h2 | h2
      · exact absurd (List.mem_map.2 ⟨x, h1, by rw [e, h2]⟩ : z.2 ∈ List.map (·.2) d) h.1
      · exact ih h.2 h1 h2
theorem without_lt {d : Dir} {s : ByteArray} {n : Nat} (h : (s, n) ∈ d) : (without d s).length + 1 ≤ d.length := by
  induction d with
  | nil => cases h
  | cons x d ih =>
    have hs := (without_sub d s).length_le
    unfold without at hs ih ⊢
    by_cases hx : x.1 = s
    · rw [List.filter_cons_of_neg (by simpa using hx), List.length_cons]
      omega
    · rw [List.filter_cons_of_pos (by simpa using hx), List.length_cons, List.length_cons]
      rcases List.mem_cons.1 h with e | h
      · exact absurd (by rw [← e]) hx
      · have := ih h; omega
theorem rename_len {d : Dir} {s u : ByteArray} {n m : Nat} (h : (s, n) ∈ d) : (with_ (without (without d s) u) u m).length ≤ d.length := by
  rw [(with_perm _ _ _).length_eq, List.length_cons]
  have h1 := without_lt h
  have h2 := (without_sub (without d s) u).length_le
  omega
theorem rename_nums {d : Dir} {s u : ByteArray} {n : Nat} (hd : (d.map (·.2)).Nodup) (h : (s, n) ∈ d) : ((with_ (without (without d s) u) u n).map (·.2)).Nodup := by
  rw [((with_perm _ _ _).map _).nodup_iff, List.map_cons, List.nodup_cons]
  refine ⟨fun hm => ?_, hd.sublist (((without_sub _ _).trans (without_sub _ _)).map _)⟩
  obtain ⟨e, he, e2⟩ := List.mem_map.1 hm
  have h1 := mem_without.1 (mem_without.1 he).1
  have := snd_inj hd h1.1 h e2
  rw [this] at h1
  exact h1.2 rfl
theorem remove_doN (d : Dir) (s : ByteArray) : doN d ⟨s, ByteArray.empty, 0⟩ = without d s := if_pos rfl
theorem rename_doN (d : Dir) {s u : ByteArray} (hu : isName u = true) (n : Nat) : doN d ⟨s, u, n⟩ = with_ (without (without d s) u) u n := if_neg (name_ne hu)
end Sf
section
variable {w : World} {fp : Fp} {t : Sf.St} {b : Nat}
set_option maxHeartbeats 2000000 in
set_option maxRecDepth 100000 in
theorem premove_any (h : PDisk w fp t b) (hf : Sf.Few t) (s : ByteArray) (hs : s.size ≤ maxLen) : Calls Tryz.prog 28 #[.pointer (some ⟨b, 0, none⟩), .string s] w (IsDeed PDisk fp b (Sf.remove t s) w) := by
  have HD := Lib.hid h
  obtain ⟨who, bf, bs, bn, vr, ff, rn, h⟩ := h
  have CF := Lib.hid (pfind_disk h s hs)
  obtain ⟨k, er, hge⟩ : ∃ k er, Sf.get t s = (k, er) := ⟨_, _, rfl⟩
  rw [hge] at CF
  have HE0 : Hid (Sf.remove t s = if er ≠ 0 then (er, t) else Sf.turn t (Sf.without t.seen s)) := by unfold Hid Sf.remove; rw [hge]
  by_cases he : er = 0
  · subst he
    obtain ⟨_, hfi⟩ := h.len_seen hge
    have hm := Sf.find_mem hfi
    have hnm := h.good.seen.name _ hm
    have hsz := (Sf.name_size hnm).2
    have hlt := (h.good.lens t.seen (.inr (.inl rfl))).2 _ hm
    have hl64 := (h.good.lens t.seen (.inr (.inl rfl))).1
    have HE : Hid (Sf.remove t s = Sf.turn t (Sf.without t.seen s)) := HE0.out.trans (if_neg (by simp))
    have CN := Lib.hid (pdoToNames_disk h.mono h.body.names (by have := h.good.rows; omega) hf ⟨s, ByteArray.empty, 0⟩ (by show s.size ≤ 4096; simp only at hsz; omega) (by show ByteArray.empty.size ≤ 4096; decide) (.inl rfl) (by show 0 < t.files.length; omega) (by rw [Sf.remove_doN]; have := (Sf.without_sub t.seen s).length_le; omega)
      (by rw [Sf.remove_doN]; exact h.good.nums.sublist ((Sf.without_sub _ _).map _)) (fun h => absurd rfl h))
    rw [Sf.remove_doN] at CN
    change Hid (Calls _ _ #[.pointer (some ⟨b, 0, none⟩), .agg #[.string s, .string ⟨#[]⟩, .int .i64 0]] w _) at CN
    clear h hge hfi hm hnm hlt hl64 hsz hf HE0
    go_enter Tryz.func28, Tryz.ntmps28
    go_wp2_with fail
    refine CF.out.mono ?_
    rintro e1 w1 ⟨rfl, rfl⟩
    clear CF
    go_wp2_with fail
    refine CN.out.mono ?_
    rintro e2 w2 ⟨rfl, f', hD, hN, hT⟩
    have H2 := Lib.hid hD
    have H3 := Lib.hid hN
    have H4 := Lib.hid hT
    clear CN hD hN hT
    go_wp2
    go_ret
    rw [HE.out]
    exact ⟨rfl, f', H2.out, H3.out, H4.out⟩
  · have hq : ((er : Int) != 0) = true := by rw [bne_iff_ne]; omega
    have HE : Hid (Sf.remove t s = (er, t)) := HE0.out.trans (if_pos he)
    clear h hge hf HE0 he
    go_enter Tryz.func28, Tryz.ntmps28
    go_wp2_with fail
    refine CF.out.mono ?_
    rintro e1 w1 ⟨rfl, rfl⟩
    clear CF
    go_wp2
    go_ret
    rw [HE.out]
    exact ⟨rfl, fp, HD.out, Fp.Next.refl _ _, Turned.refl _ _⟩
set_option maxHeartbeats 2000000 in
set_option maxRecDepth 100000 in
theorem prename_any (h : PDisk w fp t b) (hf : Sf.Few t) (s u : ByteArray) (hs : s.size ≤ maxLen) (hu : u.size ≤ maxLen) : Calls Tryz.prog 27 #[.pointer (some ⟨b, 0, none⟩), .string s, .string u] w (IsDeed PDisk fp b (Sf.rename t s u) w) := by
  have HD := Lib.hid h
  obtain ⟨who, bf, bs, bn, vr, ff, rn, h⟩ := h
  have CF := Lib.hid (pfind_disk h s hs)
  have CI := Lib.hid (pisname_any u hu w)
  obtain ⟨k, er, hge⟩ : ∃ k er, Sf.get t s = (k, er) := ⟨_, _, rfl⟩
  rw [hge] at CF
  have HE0 : Hid (Sf.rename t s u = if er ≠ 0 then (er, t) else if Sf.isName u = false then (2, t) else Sf.turn t (Sf.with_ (Sf.without (Sf.without t.seen s) u) u k)) := by unfold Hid Sf.rename; rw [hge]
  by_cases he : er = 0
  · subst he
    cases hi : Sf.isName u with
    | false =>
      have HE : Hid (Sf.rename t s u = (2, t)) := by rw [hi] at HE0; exact HE0.out.trans ((if_neg (by simp)).trans (if_pos rfl))
      rw [hi] at CI
      clear h hge hf HE0 hi
      go_enter Tryz.func27, Tryz.ntmps27
      go_wp2_with fail
      refine CF.out.mono ?_
      rintro e1 w1 ⟨rfl, rfl⟩
      clear CF
      go_wp2_with fail
      refine CI.out.mono ?_
      rintro e2 w2 ⟨rfl, rfl⟩
      clear CI
      go_wp2
      go_ret
      rw [HE.out]
      exact ⟨rfl, fp, HD.out, Fp.Next.refl _ _, Turned.refl _ _⟩
    | true =>
      obtain ⟨_, hfi⟩ := h.len_seen hge
      have hm := Sf.find_mem hfi
      have hnm := h.good.seen.name _ hm
      have hsz := (Sf.name_size hnm).2
      have hsu := (Sf.name_size hi).2
      have hlt := (h.good.lens t.seen (.inr (.inl rfl))).2 _ hm
      have hl64 := (h.good.lens t.seen (.inr (.inl rfl))).1
      have HE : Hid (Sf.rename t s u = Sf.turn t (Sf.with_ (Sf.without (Sf.without t.seen s) u) u k)) := by rw [hi] at HE0; exact HE0.out.trans ((if_neg (by simp)).trans (if_neg (by simp)))
      have CN := Lib.hid (pdoToNames_disk h.mono h.body.names (by have := h.good.rows; omega) hf ⟨s, u, k⟩ (by show s.size ≤ 4096; simp only at hsz; omega) (by show u.size ≤ 4096; omega) (.inr hi) hlt (by rw [Sf.rename_doN _ hi]; have := Sf.rename_len (u := u) (m := k) hm; omega)
        (by rw [Sf.rename_doN _ hi]; exact Sf.rename_nums h.good.nums hm) (fun _ => h.body.there _ ⟨t.seen, .inr (.inl rfl), _, hm, rfl⟩))
      rw [Sf.rename_doN _ hi] at CN
      change Hid (Calls _ _ #[.pointer (some ⟨b, 0, none⟩), .agg #[.string s, .string u, .int .i64 (k : Nat)]] w _) at CN
      rw [hi] at CI
      clear h hge hfi hm hnm hlt hl64 hsz hsu hf HE0 hi
      go_enter Tryz.func27, Tryz.ntmps27
      go_wp2_with fail
      refine CF.out.mono ?_
      rintro e1 w1 ⟨rfl, rfl⟩
      clear CF
      go_wp2_with fail
      refine CI.out.mono ?_
      rintro e2 w2 ⟨rfl, rfl⟩
      clear CI
      go_wp2_with fail
      refine CN.out.mono ?_
      rintro e2 w2 ⟨rfl, f', hD, hN, hT⟩
      have H2 := Lib.hid hD
      have H3 := Lib.hid hN
      have H4 := Lib.hid hT
      clear CN hD hN hT
      go_wp2
      go_ret
      rw [HE.out]
      exact ⟨rfl, f', H2.out, H3.out, H4.out⟩
  · have hq : ((er : Int) != 0) = true := by rw [bne_iff_ne]; omega
    have HE : Hid (Sf.rename t s u = (er, t)) := HE0.out.trans (if_pos he)
    clear h hge hf HE0 he CI
    go_enter Tryz.func27, Tryz.ntmps27
    go_wp2_with fail
    refine CF.out.mono ?_
    rintro e1 w1 ⟨rfl, rfl⟩
    clear CF
    go_wp2
    go_ret
    rw [HE.out]
    exact ⟨rfl, fp, HD.out, Fp.Next.refl _ _, Turned.refl _ _⟩
end
end Go.Proofs.YtmcbjcbnckpfkaaGreat
namespace Go.Proofs.YtmcbjcbnckpfkaaGreat
open Go.RowKit
set_option linter.unusedVariables false
theorem fileOk_none : FileOk Sf.noFile where
  len := fun k hk => by
    have e : k = 0 := by simpa [Sf.noFile] using hk
    subst e
    simp [Sf.bytes, Sf.noFile]
  at_ := fun k c hk => by simp [Sf.noFile] at hk
  row := by simp [Sf.noFile]
theorem hasX_none (w : World) (who : Who) (n : Nat) : HasX w who n x0 Sf.noFile :=
  ⟨OwnL.nil_ _ _ _, Bears.nil_ _ _, OwnL.nil_ _ _ _, Bears.nil_ _ _, ⟨[], rfl, OwnL.nil_ _ _ _, fun j r a h => by simp at h⟩, Bears.nil_ _ _, fun _ => rfl, fileOk_none⟩
section
variable {w w' : World} {fp : Fp} {t : Sf.St} {b : Nat} {who : Who} {bf bs bn : Nat} {vr : Sl} {ff : Int → Option RawX} {rn : List RawN} {F : Nat → Prop}
theorem PBody.more_file (h : PBody w who 0 t bf bs bn vr ff rn) (hT : Turned F w w') (hF : ∀ k, F k → who k = none ∨ who k = some .head ∨ who k = some .files)
    (hmap : IsMp fM w' bf (64 + t.acts + 1) (fun k => if k = (t.files.length : Int) then some x0 else ff k)) :
    PBody w' who 1 { t with files := t.files ++ [Sf.noFile] } bf bs bn vr (fun k => if k = (t.files.length : Int) then some x0 else ff k) rn := by
  have no : ∀ r, r ≠ Role.head → r ≠ Role.files → ∀ k, F k → who k ≠ some r := fun r h1 h2 k hf hk => by
    rcases hF k hf with h6 | h6 | h6 <;> rw [h6] at hk
    · cases hk
    · exact h1 (Option.some.inj hk).symm
    · exact h2 (Option.some.inj hk).symm
  have no1 : ∀ r k, who k = some r → r ≠ Role.head → r ≠ Role.files → ¬ F k := fun r k hk h1 h2 hf => no r h1 h2 k hf hk
  refine ⟨hmap, (h.names.turned_ hT (no1 _ _ h.namesW (by simp) (by simp))).mono_ (by show _ ≤ 64 + t.acts + 1; omega), (h.sure.turned_ hT (no1 _ _ h.sureW (by simp) (by simp))).mono_ (by show _ ≤ 64 + t.acts + 1; omega),
    h.row.turned_ hT (h.rowW.off (no _ (by simp) (by simp))), h.hrow, h.hseen, h.nil, fun i y hy => ?_, fun m hmr => ?_, h.filesW, h.namesW, h.sureW, h.rowW⟩
  · by_cases e : i = (t.files.length : Int)
    · rw [if_pos e] at hy
      obtain rfl := Option.some.inj hy
      exact ⟨t.files.length, Sf.noFile, e, by show (t.files ++ [Sf.noFile])[t.files.length]? = _; simp, hasX_none _ _ _⟩
    · rw [if_neg e] at hy
      obtain ⟨m, f, h1, h2, h3⟩ := h.file i y hy
      exact ⟨m, f, h1, by show (t.files ++ [Sf.noFile])[m]? = _; rw [List.getElem?_append_left (List.getElem?_eq_some_iff.1 h2).1]; exact h2, h3.turned hT fun k hk => ⟨no _ (by simp) (by simp) k hk, no _ (by simp) (by simp) k hk, no _ (by simp) (by simp) k hk, no _ (by simp) (by simp) k hk⟩⟩
  · by_cases e : (m : Int) = (t.files.length : Int)
    · rw [if_pos e]; rfl
    · rw [if_neg e]; exact h.there m hmr
theorem GoodS.more_file (h : GoodS 0 t) : GoodS 1 { t with files := t.files ++ [Sf.noFile] } := by
  have hl : (t.files ++ [Sf.noFile]).length = t.files.length + 1 := by simp
  refine ⟨h.room, by show (t.files ++ [Sf.noFile]).length ≤ 64 + t.acts + 1; rw [hl]; have := h.files; omega, by have := h.rows; show t.row.length ≤ t.acts + 1; omega, h.acts, h.fuse, h.sure, h.seen, h.row, fun d hd => ⟨(h.lens d hd).1, fun e he => by show _ < (t.files ++ [Sf.noFile]).length; rw [hl]; have := (h.lens d hd).2 e he; omega⟩, h.nums, fun f hf => ?_⟩
  rcases List.mem_append.1 hf with hf | hf
  · have := h.frow f hf; show f.row.length ≤ t.acts + 1; omega
  · rw [List.mem_singleton.1 hf]; show (0 : Nat) ≤ _; omega
set_option maxHeartbeats 4000000 in
set_option maxRecDepth 100000 in
theorem pcreate_any (h : PDisk w fp t b) (hf : Sf.Few t) (s : ByteArray) (hs : s.size ≤ maxLen) : Calls Tryz.prog 20 #[.pointer (some ⟨b, 0, none⟩), .string s] w (IsDeed PDisk fp b (Sf.create t s) w) := by
  have HD := Lib.hid h
  obtain ⟨who, bf, bs, bn, vr, ff, rn, h⟩ := h
  have CR := Lib.hid (prefusal_disk h)
  have CI := Lib.hid (pisname_any s hs w)
  cases hd : t.dead with
  | true =>
    have HE : Hid (Sf.create t s = (13, t)) := if_pos hd
    rw [hd] at CR
    clear h hf hd CI
    go_enter Tryz.func20, Tryz.ntmps20
    go_wp2_with fail
    refine CR.out.mono ?_
    rintro e1 w1 ⟨rfl, rfl⟩
    clear CR
    go_wp2
    go_ret
    rw [HE.out]
    exact ⟨rfl, fp, HD.out, Fp.Next.refl _ _, Turned.refl _ _⟩
  | false =>
    rw [hd] at CR
    have HE0 : Hid (Sf.create t s = if Sf.isName s = false then (2, t) else if (Sf.find t.seen s).isSome then (8, t) else if 64 ≤ t.seen.length then (3, t) else Sf.turn { t with files := t.files ++ [Sf.noFile] } (Sf.with_ t.seen s t.files.length)) := if_neg (by rw [hd]; simp)
    have h5 : w.cell? ⟨b, 5, none⟩ = some (.map (some bn)) := h.cell rfl
    have hl := h.body.names.look_ok (x := s) hs
    change (Instr.lookup 75 (.map (some bn)) (.string s) true).run Tryz.prog w = .ok (.tuple #[.int .i64 ((Sf.dirF t.seen s).getD 0), .bool (Sf.dirF t.seen s).isSome]) w at hl
    cases hi : Sf.isName s with
    | false =>
      have HE : Hid (Sf.create t s = (2, t)) := by rw [hi] at HE0; exact HE0.out.trans (if_pos rfl)
      rw [hi] at CI
      clear h hf HE0 hi hd hl h5
      go_enter Tryz.func20, Tryz.ntmps20
      go_wp2_with fail
      refine CR.out.mono ?_
      rintro e1 w1 ⟨rfl, rfl⟩
      clear CR
      go_wp2_with fail
      refine CI.out.mono ?_
      rintro e2 w2 ⟨rfl, rfl⟩
      clear CI
      go_wp2
      go_ret
      rw [HE.out]
      exact ⟨rfl, fp, HD.out, Fp.Next.refl _ _, Turned.refl _ _⟩
    | true =>
      rw [hi] at CI
      cases hfi : Sf.find t.seen s with
      | some n =>
        have HE : Hid (Sf.create t s = (8, t)) := by rw [hi, hfi] at HE0; exact HE0.out.trans ((if_neg (by simp)).trans (if_pos rfl))
        have e1 : Sf.dirF t.seen s = some (n : Int) := by unfold Sf.dirF; rw [hfi]; rfl
        rw [e1] at hl
        clear h hf HE0 hi hd hfi e1
        go_enter Tryz.func20, Tryz.ntmps20
        go_wp2_with fail
        refine CR.out.mono ?_
        rintro e1 w1 ⟨rfl, rfl⟩
        clear CR
        go_wp2_with fail
        refine CI.out.mono ?_
        rintro e2 w2 ⟨rfl, rfl⟩
        clear CI
        go_wp2
        go_ret
        rw [HE.out]
        exact ⟨rfl, fp, HD.out, Fp.Next.refl _ _, Turned.refl _ _⟩
      | none =>
        have e1 : Sf.dirF t.seen s = none := by unfold Sf.dirF; rw [hfi]; rfl
        rw [e1] at hl
        have hlen := dir_len h.body.names h.good.seen 3
        have hl64 := (h.good.lens t.seen (.inr (.inl rfl))).1
        by_cases h64 : 64 ≤ t.seen.length
        · have HE : Hid (Sf.create t s = (3, t)) := by rw [hi, hfi] at HE0; exact HE0.out.trans ((if_neg (by simp)).trans ((if_neg (by simp)).trans (if_pos h64)))
          have h64i : (64 : Int) ≤ (t.seen.length : Int) := by omega
          clear h hf HE0 hi hd hfi e1 hl64
          go_enter Tryz.func20, Tryz.ntmps20
          go_wp2_with fail
          refine CR.out.mono ?_
          rintro e1 w1 ⟨rfl, rfl⟩
          clear CR
          go_wp2_with fail
          refine CI.out.mono ?_
          rintro e2 w2 ⟨rfl, rfl⟩
          clear CI
          go_wp2
          go_ret
          rw [HE.out]
          exact ⟨rfl, fp, HD.out, Fp.Next.refl _ _, Turned.refl _ _⟩
        · have HE : Hid (Sf.create t s = Sf.turn { t with files := t.files ++ [Sf.noFile] } (Sf.with_ t.seen s t.files.length)) := by rw [hi, hfi] at HE0; exact HE0.out.trans ((if_neg (by simp)).trans ((if_neg (by simp)).trans (if_neg h64)))
          have h64i : ¬ (64 : Int) ≤ (t.seen.length : Int) := by omega
          have hsu := (Sf.name_size hi).2
          have hfl := h.good.files
          have hac := h.good.acts
          -- next
          have c2 : w.cell? ⟨b, 2, none⟩ = some (.int .i64 (t.files.length : Nat)) := h.cell rfl
          have z2 : w.frozen? ⟨b, 2, none⟩ = false := frozen_of_row w b 2 _ _ h.head
          have wn : IntKind.i64.wrap ((t.files.length : Int) + 1) = (t.files.length : Int) + 1 := by rw [IntKind.wrap_i64]; omega
          have nn : ((t.files.length + 1 : Nat) : Int) = (t.files.length : Int) + 1 := by omega
          have hh1 := head_setP h.head 2 (.int .i64 ((t.files.length : Int) + 1)) (C' := headP { t with files := t.files ++ [Sf.noFile] } bf bs bn vr) (by unfold headP; simp only [List.length_append, List.length_singleton]; rw [← nn]; rfl)
          have hT1 : Turned (fun k => k = b) w (w.setCell ⟨b, 2, none⟩ (.int .i64 ((t.files.length : Int) + 1))) := Turned.setCell (F := fun k => k = b) (Turned.refl (fun k => k = b) w) (p := ⟨b, 2, none⟩) (fun _ => rfl) _
          obtain ⟨w1, hw1⟩ : ∃ w1, w.setCell ⟨b, 2, none⟩ (.int .i64 ((t.files.length : Int) + 1)) = w1 := ⟨_, rfl⟩
          rw [hw1] at hh1 hT1
          have c1 : w1.cell? ⟨b, 1, none⟩ = some (.map (some bf)) := head_cellP hh1 rfl
          have hne : bf ≠ b := fun e => by have := h.body.filesW; rw [e, h.mine] at this; cases this
          have hm1 : IsMp fM w1 bf (64 + t.acts + 0) ff := h.body.files.turned_ hT1 hne
          obtain ⟨w2, hup, hm2, hg2⟩ := hm1.upd (x := (t.files.length : Int)) (by simp only [maxLen]; omega) (WalkArith.wf_i64 (by omega)) x0
          change (Instr.mapUpdate 77 (.map (some bf)) (.int .i64 (t.files.length : Nat)) (.agg #[.slice none 0 0, .slice none 0 0, .slice none 0 0])).run Tryz.prog w1 = .ok () w2 at hup
          have hT2 : Turned (fun k => k = b ∨ k = bf) w w2 := (hT1.mono fun _ _ h => .inl h).trans (Turned.of_grown hg2) (fun k _ h => .inr (Option.some.inj h).symm)
          have hF : ∀ k, (k = b ∨ k = bf) → who k = none ∨ who k = some .head ∨ who k = some .files := fun k hk => by
            rcases hk with e | e <;> rw [e]
            · exact .inr (.inl h.mine)
            · exact .inr (.inr h.body.filesW)
          have hP : PHas w2 fp 1 { t with files := t.files ++ [Sf.noFile] } b who bf bs bn vr (fun k => if k = (t.files.length : Int) then some x0 else ff k) rn :=
            ⟨(hg2.block b (Nat.lt_of_lt_of_le (h.lt b (by rw [h.mine]; rfl)) hT1.size) (fun e => hne (Option.some.inj e).symm)).trans hh1, h.body.more_file hT2 hF hm2, h.good.more_file, h.mine, h.m, h.r, fun k hk => Nat.lt_of_lt_of_le (h.lt k hk) hT2.size⟩
          have hNm : IsMp dM w2 bn (64 + t.acts) (Sf.dirF t.seen) := h.body.names.turned_ hT2 (fun e => by
            have := h.body.namesW
            rcases e with e | e <;> rw [e] at this
            · rw [h.mine] at this; cases this
            · rw [h.body.filesW] at this; cases this)
          have hD := Sf.create_doN h.good.seen hi hfi t.files.length
          have CN := Lib.hid (pdoToNames_disk hP hNm (by have := h.good.rows; show t.row.length ≤ t.acts; omega) hf ⟨ByteArray.empty, s, t.files.length⟩ (by show ByteArray.empty.size ≤ 4096; decide) (by show s.size ≤ 4096; omega) (.inr hi) (by show t.files.length < (t.files ++ [Sf.noFile]).length; simp)
            (by show (Sf.doN t.seen _).length ≤ 64; rw [hD, (Sf.with_perm _ _ _).length_eq, List.length_cons]; omega)
            (by
              show ((Sf.doN t.seen _).map _).Nodup
              rw [hD, ((Sf.with_perm _ _ _).map _).nodup_iff, List.map_cons, List.nodup_cons]
              refine ⟨fun hm => ?_, h.good.nums⟩
              obtain ⟨e, he, e2⟩ := List.mem_map.1 hm
              have := (h.good.lens t.seen (.inr (.inl rfl))).2 e he
              simp only at e2
              omega) (fun _ => by rw [if_pos rfl]; rfl))
          rw [show Sf.doN ({ t with files := t.files ++ [Sf.noFile] } : Sf.St).seen ⟨ByteArray.empty, s, t.files.length⟩ = Sf.with_ t.seen s t.files.length from hD] at CN
          change Hid (Calls _ _ #[.pointer (some ⟨b, 0, none⟩), .agg #[.string ⟨#[]⟩, .string s, .int .i64 (t.files.length : Nat)]] w2 _) at CN
          have HT2 : Hid (Turned fp.M w w2) := hT2.mono fun k _ hk => (h.m k).2 (by
            rcases hk with e | e <;> rw [e]
            · rw [h.mine]; rfl
            · rw [h.body.filesW]; rfl)
          clear h hf HE0 hi hd hfi e1 hl64 hsu hfl hac nn hh1 hT1 hne hm1 hm2 hg2 hT2 hF hP hNm hD h64
          go_enter Tryz.func20, Tryz.ntmps20
          go_wp2_with fail
          refine CR.out.mono ?_
          rintro e1 w1 ⟨rfl, rfl⟩
          clear CR
          go_wp2_with fail
          refine CI.out.mono ?_
          rintro e2 w2 ⟨rfl, rfl⟩
          clear CI
          go_wp2_with fail
          refine CN.out.mono ?_
          rintro e2 w3 ⟨rfl, f', hD, hN, hT⟩
          have H2 := Lib.hid hD
          have H3 := Lib.hid hN
          have H4 := Lib.hid hT
          clear CN hD hN hT
          go_wp2
          go_ret
          rw [HE.out]
          exact ⟨rfl, f', H2.out, ⟨fun k hk => (H3.out.m k hk).imp id (fun h => Nat.le_trans HT2.out.size h), fun k hk => (H3.out.r k hk).imp id (fun h => Nat.le_trans HT2.out.size h)⟩, HT2.out.trans H4.out (fun k _ h => h)⟩
end
end Go.Proofs.YtmcbjcbnckpfkaaGreat
namespace Go.Proofs.YtmcbjcbnckpfkaaGreat
open Go.RowKit
set_option linter.unusedVariables false
section
variable {w : World} {fp : Fp} {s : Nat} {t : Sf.St} {b : Nat} {who : Who} {bf bs bn : Nat} {vr : Sl} {ff : Int → Option RawX} {rn : List RawN}
set_option maxHeartbeats 4000000 in
set_option maxRecDepth 100000 in
theorem pdoToFile_disk (h : PHas w fp 0 t b who bf bs bn vr ff rn) (hf : Sf.Few t) {n : Nat} {x : RawX} (hn : n < t.files.length) (hx : ff (n : Int) = some x) (hX : HasX w who n x (Sf.fileAt t n)) (c : RawC) (m : List Nat) {bl : Nat} (hm : Lv yK w bl (slV c.sl) m) (hbl : bl ≤ w.heap.size) (B0 : Nat) (hB0 : B0 ≤ w.heap.size) (hnew : 0 < m.length → ∀ k, (slV c.sl).ownBlock = some k → who k = none ∧ k < w.heap.size ∧ B0 ≤ k)
    (ha : c.at_ ≤ (Sf.now (Sf.fileAt t n)).length) (hml : m.length ≤ 1048576) (hcut : c.cut = true → m = []) (hD : (Sf.done (Sf.now (Sf.fileAt t n)) ⟨c.cut, c.at_, m⟩).length ≤ 1048576) :
    Calls Tryz.prog 76 #[.pointer (some ⟨b, 0, none⟩), .int .i64 (n : Nat), cV c] w (fun e w' => e = .returned (.int .i64 ((Sf.add t n ⟨c.cut, c.at_, m⟩).1 : Nat)) ∧ ∃ f', PDisk w' f' (Sf.add t n ⟨c.cut, c.at_, m⟩).2 b ∧ fp.Next f' B0 ∧ Turned fp.M w w') := by
  obtain ⟨f, hfe⟩ : ∃ f, Sf.fileAt t n = f := ⟨_, rfl⟩
  rw [hfe] at hX ha hD
  obtain ⟨rc, hrl, hrow, hacts⟩ := hX.row
  have hnl : (Sf.now f).length ≤ 1048576 := by have := hX.ok.len f.row.length (Nat.le_refl _); rwa [Sf.bytes_all] at this
  have hfr : f.row.length ≤ t.acts := by
    have : f ∈ t.files := by
      rw [← hfe]; unfold Sf.fileAt
      rw [List.getD_eq_getElem?_getD, List.getElem?_eq_getElem hn]; exact List.getElem_mem hn
    exact h.good.frow f this
  have hac := h.good.acts
  have hffl := h.good.files
  -- the box
  obtain ⟨at_, ⟨Ac, nc, cc⟩, cut⟩ := c
  simp only [slV] at hm hnew ha hcut hD ⊢
  change Calls _ _ #[.pointer (some ⟨b, 0, none⟩), .int .i64 (n : Nat), .agg #[.int .i64 (at_ : Nat), .slice Ac nc cc, .bool cut]] w _
  obtain ⟨W, hW⟩ : ∃ W, w.alloc (.cells #[.int .i64 (at_ : Nat), .slice Ac nc cc, .bool cut] 113) = W := ⟨_, rfl⟩
  have hWs : W.heap.size = w.heap.size + 1 := by rw [← hW]; simp
  have hW0 : W.heap[w.heap.size]? = some (.cells #[.int .i64 (at_ : Nat), .slice Ac nc cc, .bool cut] 113 (0, 0)) := by rw [← hW]; exact heap_alloc_new _ _
  have hb : Below w.heap.size w W := by rw [← hW]; exact (Below.refl _ _).alloc (Nat.le_refl _) _
  have HW := h.below hb
  have hTW : Turned (fun _ => False) w W := by rw [← hW]; exact (Turned.refl _ _).alloc _
  have hXW : HasX W who n x f := hX.turned hTW (fun _ h => h.elim)
  have hmW : Lv yK W bl (.slice Ac nc cc) m := hm.below_ hb hbl
  -- the call
  have hap : Apart (slV x.row) (slV x.now) := fun k h1 h2 => by
    have e1 := hX.rowW k h1
    have e2 := hX.nowW k h2
    rw [e1] at e2
    cases e2
  have hap2 : 0 < m.length → Apart (.slice Ac nc cc) (slV x.now) := fun hp k h1 h2 => by
    have e1 := (hnew hp k h1).1
    have e2 := hX.nowW k h2
    rw [e1] at e2
    cases e2
  have hap3 : 0 < m.length → Apart (.slice Ac nc cc) (slV x.row) := fun hp k h1 h2 => by
    have e1 := (hnew hp k h1).1
    have e2 := hX.rowW k h2
    rw [e1] at e2
    cases e2
  have hrowW : OwnL cK W 0 (slV x.row) rc := hrow.turned_ hTW (fun _ _ h => h)
  have hnowW : OwnL yK W 0 (slV x.now) (Sf.now f) := hXW.now
  have CC := Lib.hid (pchanged_any ⟨at_, ⟨Ac, nc, cc⟩, cut⟩ x (Sf.now f) m rc W.drew bl hrowW.drew_ hnowW.drew_ hmW.drew_ (by have := hb.size; show bl ≤ W.heap.size; omega) hap hap2 hap3 ha (by omega) (by omega) (by show at_ ≤ _; omega) (by omega))
  change Hid (Calls _ _ #[xV x, .agg #[.int .i64 (at_ : Nat), .slice Ac nc cc, .bool cut]] W.drew _) at CC
  -- what stays
  obtain ⟨F, hF⟩ : ∃ F : Nat → Prop, (fun k => (slV x.row).ownBlock = some k ∨ (slV x.now).ownBlock = some k) = F := ⟨_, rfl⟩
  rw [hF] at CC
  have HFW : Hid (∀ k, F k → who k = some (.frow n) ∨ who k = some (.fnow n)) := fun k hk => by rw [← hF] at hk; exact hk.imp (fun h => hX.rowW k h) (fun h => hX.nowW k h)
  have HFN : Hid (∀ k r, who k = some r → r ≠ .frow n → r ≠ .fnow n → ¬ F k) := fun k r hk h1 h2 hf => by
    rcases HFW.out k hf with h | h <;> rw [hk] at h
    · exact h1 (Option.some.inj h)
    · exact h2 (Option.some.inj h)
  have HHC : Hid (∀ w', Turned F W w' → IsHead w' b (headP t bf bs bn vr)) := fun w' ht => (ht.block b (HW.lt b (by rw [HW.mine]; rfl)) (HFN.out b _ h.mine (by simp) (by simp))).trans HW.head
  have HC : Hid (∀ w', Turned F W w' → w'.cell? ⟨b, 1, none⟩ = some (.map (some bf))) := fun w' ht => head_cellP (HHC.out w' ht) rfl
  have HY : Hid (∀ w', Turned F W w' → w'.cell? ⟨w.heap.size, 0, none⟩ = some (.int .i64 (at_ : Nat)) ∧ w'.cell? ⟨w.heap.size, 1, none⟩ = some (.slice Ac nc cc) ∧ w'.cell? ⟨w.heap.size, 2, none⟩ = some (.bool cut)) := fun w' ht => by
    have hh := (ht.block w.heap.size (by omega) (fun hf => by
      have h2 := h.new (Nat.le_refl w.heap.size)
      rcases HFW.out _ hf with h3 | h3 <;> rw [h2] at h3 <;> cases h3)).trans hW0
    exact ⟨by rw [cell_of_row _ _ 0 _ _ _ hh]; rfl, by rw [cell_of_row _ _ 1 _ _ _ hh]; rfl, by rw [cell_of_row _ _ 2 _ _ _ hh]; rfl⟩
  have hni : (Lit.int .i64 (n : Int)).wf = true := WalkArith.wf_i64 (by omega)
  have HMP : Hid (∀ w', Turned F W w' → IsMp fM w' bf (64 + t.acts + 0) ff) := fun w' ht => HW.body.files.turned_ ht (HFN.out bf _ h.body.filesW (by simp) (by simp))
  have HLK : Hid (∀ w', Turned F W w' → (Instr.lookup 77 (.map (some bf)) (.int .i64 (n : Nat)) false).run Tryz.prog w' = .ok (xV x) w') := fun w' ht => by
    have := (HMP.out w' ht).look (x := (n : Int)) hni
    rw [hx] at this
    exact this
  have HH := Lib.hid h
  have HFEW := Lib.hid hf
  have HX := Lib.hid hX
  have HBW := Lib.hid hb
  have HS0 : Hid (Turned F W W.drew) := (Turned.refl F W).drew
  have HNI := Lib.hid hni
  have HAC : Hid (t.acts ≤ 1099511627776 ∧ n < t.files.length ∧ f.row.length ≤ t.acts ∧ B0 ≤ w.heap.size ∧ W.heap.size = w.heap.size + 1 ∧ rc.length = f.row.length) := ⟨hac, hn, hfr, hB0, hWs, hrl⟩
  have HXE := Lib.hid hx
  obtain ⟨C, hC⟩ : ∃ C, xV x = C := ⟨_, rfl⟩
  rw [hC] at CC HLK
  have HACTS := Lib.hid hacts
  have HNEW := Lib.hid hnew
  have HM0 := Lib.hid hm
  have HDL := Lib.hid hD
  have HAT := Lib.hid ha
  have HCUT := Lib.hid hcut
  have HML := Lib.hid hml
  have HFE := Lib.hid hfe
  clear hf hX hXW hnew hm hD ha hcut hml hfe hrow hacts hap hap2 hap3 hrowW hnowW hb HW hTW hmW hF hni hac hffl hfr hnl h hx
  go_enter Tryz.func76, Tryz.ntmps76
  go_wp2
  refine wp_region_m (fun w' => Turned F W w') 13 (by kernel_rfl) ?_
  have hH := HS0.out
  refine wpAnyM_take (i := 0) (v := ?_) rfl (by kernel_rfl) (by kernel_rfl) (by kernel_rfl) (by kernel_rfl) (fun _ _ _ h => h) hH (Or.inl ⟨by rfl, (by intro w' hSw; go_simp; first | done | with_reducible rfl)⟩) ?_
  try simp only [Act.put, List.getElem_toArray, List.getElem_cons_zero, List.setIfInBounds_toArray, List.set_cons_zero, List.set_cons_succ]
  refine wpAnyM_take (i := 1) (v := ?_) rfl (by kernel_rfl) (by kernel_rfl) (by kernel_rfl) (by kernel_rfl) (fun _ _ _ h => h) hH (Or.inl ⟨by rfl, (by intro w' hSw; go_simp; first | done | with_reducible rfl)⟩) ?_
  try simp only [Act.put, List.getElem_toArray, List.getElem_cons_succ, List.getElem_cons_zero, List.setIfInBounds_toArray, List.set_cons_zero, List.set_cons_succ]
  refine wpAnyM_take (i := 2) (v := ?_) rfl (by kernel_rfl) (by kernel_rfl) (by kernel_rfl) (by kernel_rfl) (fun _ _ _ h => h) hH (Or.inl ⟨by rfl, (by intro w' hSw; go_simp; first | done | with_reducible rfl)⟩) ?_
  try simp only [Act.put, List.getElem_toArray, List.getElem_cons_succ, List.getElem_cons_zero, List.setIfInBounds_toArray, List.set_cons_zero, List.set_cons_succ]
  refine wpAnyM_take (i := 3) (v := ?_) rfl (by kernel_rfl) (by kernel_rfl) (by kernel_rfl) (by kernel_rfl) (fun _ _ _ h => h) hH (Or.inl ⟨by rfl, (by intro w' hSw; have s1 := HC.out w' hSw; go_simp; first | done | with_reducible rfl)⟩) ?_
  try simp only [Act.put, List.getElem_toArray, List.getElem_cons_succ, List.getElem_cons_zero, List.setIfInBounds_toArray, List.set_cons_zero, List.set_cons_succ]
  refine wpAnyM_take (i := 4) (v := ?_) rfl (by kernel_rfl) (by kernel_rfl) (by kernel_rfl) (by kernel_rfl) (fun _ _ _ h => h) hH (Or.inl ⟨by rfl, (by intro w' hSw; go_simp; first | done | with_reducible rfl)⟩) ?_
  try simp only [Act.put, List.getElem_toArray, List.getElem_cons_succ, List.getElem_cons_zero, List.setIfInBounds_toArray, List.set_cons_zero, List.set_cons_succ]
  refine wpAnyM_take (i := 5) (v := ?_) rfl (by kernel_rfl) (by kernel_rfl) (by kernel_rfl) (by kernel_rfl) (fun _ _ _ h => h) hH (Or.inl ⟨by rfl, (by intro w' hSw; go_simp; first | done | with_reducible rfl)⟩) ?_
  try simp only [Act.put, List.getElem_toArray, List.getElem_cons_succ, List.getElem_cons_zero, List.setIfInBounds_toArray, List.set_cons_zero, List.set_cons_succ]
  refine wpAnyM_take (i := 6) (v := ?_) rfl (by kernel_rfl) (by kernel_rfl) (by kernel_rfl) (by kernel_rfl) (fun _ _ _ h => h) hH (Or.inl ⟨by rfl, (by intro w' hSw; go_simp; first | done | with_reducible rfl)⟩) ?_
  try simp only [Act.put, List.getElem_toArray, List.getElem_cons_succ, List.getElem_cons_zero, List.setIfInBounds_toArray, List.set_cons_zero, List.set_cons_succ]
  refine wpAnyM_take (i := 7) (v := ?_) rfl (by kernel_rfl) (by kernel_rfl) (by kernel_rfl) (by kernel_rfl) (fun _ _ _ h => h) hH (Or.inl ⟨by rfl, (by intro w' hSw; go_simp; first | done | with_reducible rfl)⟩) ?_
  try simp only [Act.put, List.getElem_toArray, List.getElem_cons_succ, List.getElem_cons_zero, List.setIfInBounds_toArray, List.set_cons_zero, List.set_cons_succ]
  refine wpAnyM_take (i := 8) (v := ?_) rfl (by kernel_rfl) (by kernel_rfl) (by kernel_rfl) (by kernel_rfl) (fun _ _ _ h => h) hH (Or.inl ⟨by rfl, (by intro w' hSw; have s1 := HC.out w' hSw; go_simp; first | done | with_reducible rfl)⟩) ?_
  try simp only [Act.put, List.getElem_toArray, List.getElem_cons_succ, List.getElem_cons_zero, List.setIfInBounds_toArray, List.set_cons_zero, List.set_cons_succ]
  refine wpAnyM_take (i := 9) (v := ?_) rfl (by kernel_rfl) (by kernel_rfl) (by kernel_rfl) (by kernel_rfl) (fun _ _ _ h => h) hH (Or.inl ⟨by rfl, (by intro w' hSw; go_simp; first | done | with_reducible rfl)⟩) ?_
  try simp only [Act.put, List.getElem_toArray, List.getElem_cons_succ, List.getElem_cons_zero, List.setIfInBounds_toArray, List.set_cons_zero, List.set_cons_succ]
  refine wpAnyM_take (i := 10) (v := ?_) rfl (by kernel_rfl) (by kernel_rfl) (by kernel_rfl) (by kernel_rfl) (fun _ _ _ h => h) hH (Or.inl ⟨by rfl, (by intro w' hSw; have s1 := HLK.out w' hSw; go_simp; first | done | with_reducible rfl)⟩) ?_
  try simp only [Act.put, List.getElem_toArray, List.getElem_cons_succ, List.getElem_cons_zero, List.setIfInBounds_toArray, List.set_cons_zero, List.set_cons_succ]
  refine wpAnyM_take (i := 11) (v := ?_) rfl (by kernel_rfl) (by kernel_rfl) (by kernel_rfl) (by kernel_rfl) (fun _ _ _ h => h) hH (Or.inl ⟨by rfl, (by intro w' hSw; obtain ⟨s0, s1, s2⟩ := HY.out w' hSw; go_simp; first | done | with_reducible rfl)⟩) ?_
  try simp only [Act.put, List.getElem_toArray, List.getElem_cons_succ, List.getElem_cons_zero, List.setIfInBounds_toArray, List.set_cons_zero, List.set_cons_succ]
  refine wpAnyM_next (i := 12) (by kernel_rfl) rfl (fun K hK => ?_)
  go_simp
  refine CC.out.mono ?_
  rintro e W3 ⟨u, v, rfl, hr3, hn3, hT3, hmu, hmv, hap3⟩
  have hTW3 : Turned F W W3 := HS0.out.trans hT3 (fun _ _ h => h)
  have HR3 := Lib.hid hr3
  have HN3 := Lib.hid hn3
  have HMU : Hid (Moved w (slV x.row) (slV u)) := fun k hk => (hmu k hk).imp id (fun h => by have := HBW.out.size; have h2 : W.heap.size ≤ k := h; omega)
  have HMV : Hid (Moved w (slV x.now) (slV v)) := fun k hk => (hmv k hk).imp id (fun h => by have := HBW.out.size; have h2 : W.heap.size ≤ k := h; omega)
  have HAP := Lib.hid hap3
  have HT3 := Lib.hid hTW3
  obtain ⟨w4, hup, hm4, hg4⟩ := (HMP.out W3 hTW3).upd (by have := HAC.out; simp only [maxLen]; omega) HNI.out (⟨x.sure, u, v⟩ : RawX)
  change (Instr.mapUpdate 77 (.map (some bf)) (.int .i64 (n : Nat)) (xV ⟨x.sure, u, v⟩)).run Tryz.prog W3 = .ok () w4 at hup
  obtain ⟨D, hDD⟩ : ∃ D, xV ⟨x.sure, u, v⟩ = D := ⟨_, rfl⟩
  rw [hDD] at hup
  rw [hDD]
  have HM4 := Lib.hid hm4
  have HG4 := Lib.hid hg4
  refine hK.out _ _ (.inr hTW3) ?_
  clear hK K hr3 hn3 hT3 hmu hmv hap3 hTW3 hm4 hg4 CC hDD
  try simp only [Act.put, List.getElem_toArray, List.getElem_cons_succ, List.getElem_cons_zero, List.setIfInBounds_toArray, List.set_cons_zero, List.set_cons_succ]
  refine wpAnyM_next (i := 13) (by kernel_rfl) rfl (fun K hK => ?_)
  go_simp
  refine hK.out _ _ (.inl (Nat.le_refl _)) ?_
  clear hK K hup
  try simp only [Act.put, List.getElem_toArray, List.getElem_cons_succ, List.getElem_cons_zero, List.setIfInBounds_toArray, List.set_cons_zero, List.set_cons_succ]
  refine wpAnyM_done (by kernel_rfl) ?_ _
  -- the roles
  have HT4 : Hid (Turned (fun k => F k ∨ k = bf) w w4) := ((((Turned.of_below HBW.out).mono (G := fun k => F k ∨ k = bf) (fun k hk h => absurd hk (by omega))).trans HT3.out (fun _ _ h => .inl h))).trans (Turned.of_grown HG4.out) (fun k _ h => .inr (Option.some.inj h).symm)
  have hw1 : ∃ who1 : Who, More who who1 ∧ (0 < m.length → Bears who1 (.slice Ac nc cc) .bytes) ∧ (∀ k, (who1 k).isSome → (who k).isSome ∨ (B0 ≤ k ∧ k < w.heap.size)) ∧ ∀ k, (who k ≠ none ∨ w.heap.size ≤ k) → who1 k = who k := by
    by_cases h0 : 0 < m.length
    · refine ⟨lab who (.slice Ac nc cc) .bytes, lab_more (fun k hk => .inl (HNEW.out h0 k hk).1), fun _ => lab_bears _ _ _, fun k hk => (lab_some hk).imp id (fun h => ⟨(HNEW.out h0 k h).2.2, (HNEW.out h0 k h).2.1⟩), fun k hk => lab_old fun h => ?_⟩
      obtain ⟨e1, e2, _⟩ := HNEW.out h0 k h
      rcases hk with hk | hk
      · exact hk e1
      · omega
    · exact ⟨who, More.refl _, fun h => absurd h h0, fun k hk => .inl hk, fun _ _ => rfl⟩
  obtain ⟨who1, q1, q2, q3, q4⟩ := hw1
  have r1 : More who1 (lab who1 (slV u) (.frow n)) := lab_more fun k hk => by
    rcases HMU.out k hk with h | h
    · have h2 := HX.out.rowW k h
      rw [q4 k (.inl (by rw [h2]; simp))]
      exact .inr h2
    · rw [q4 k (.inr h)]
      exact .inl (HH.out.new h)
  have r2 : More (lab who1 (slV u) (.frow n)) (lab (lab who1 (slV u) (.frow n)) (slV v) (.fnow n)) := lab_more fun k hk => by
    have hne : (slV u).ownBlock ≠ some k := fun h => HAP.out k h hk
    rw [lab_old hne]
    rcases HMV.out k hk with h | h
    · have h2 := HX.out.nowW k h
      rw [q4 k (.inl (by rw [h2]; simp))]
      exact .inr h2
    · rw [q4 k (.inr h)]
      exact .inl (HH.out.new h)
  obtain ⟨who', hwho⟩ : ∃ who', lab (lab who1 (slV u) (.frow n)) (slV v) (.fnow n) = who' := ⟨_, rfl⟩
  have hmore : More who who' := by rw [← hwho]; exact (q1.trans r1).trans r2
  have hsm : ∀ k, (who' k).isSome → (who k).isSome ∨ (B0 ≤ k ∧ k < w4.heap.size) := fun k hk => by
    have hs4 := HT4.out.size
    have hs34 := HG4.out.size
    rw [← hwho] at hk
    rcases lab_some hk with hk | hk
    · rcases lab_some hk with hk | hk
      · exact (q3 k hk).imp id (fun h => ⟨h.1, by omega⟩)
      · have h3 := (HR3.out.lt_ k hk).2
        rcases HMU.out k hk with h | h
        · exact .inl (by rw [HX.out.rowW k h]; rfl)
        · exact .inr ⟨by have := HAC.out; omega, by omega⟩
    · have h3 := (HN3.out.lt_ k hk).2
      rcases HMV.out k hk with h | h
      · exact .inl (by rw [HX.out.nowW k h]; rfl)
      · exact .inr ⟨by have := HAC.out; omega, by omega⟩
  have hu4 : OwnL cK w4 0 (slV u) (rc ++ [⟨at_, ⟨Ac, nc, cc⟩, cut⟩]) := HR3.out.turned_ (Turned.of_grown HG4.out) (fun k hk e => by
    obtain rfl : bf = k := Option.some.inj e
    have h1 := r1 bf .files (q1 _ _ HH.out.body.filesW)
    rw [lab_bears _ _ _ bf hk] at h1
    cases h1)
  have hv4 : OwnL yK w4 0 (slV v) (Sf.done (Sf.now f) ⟨cut, at_, m⟩) := HN3.out.turned_ (Turned.of_grown HG4.out) (fun k hk e => by
    obtain rfl : bf = k := Option.some.inj e
    have h1 := r2 bf .files (r1 bf .files (q1 _ _ HH.out.body.filesW))
    rw [lab_bears _ _ _ bf hk] at h1
    cases h1)
  have noF : ∀ k r, who k = some r → r ≠ .frow n → r ≠ .fnow n → r ≠ .files → ¬ (F k ∨ k = bf) := fun k r hk h1 h2 h3 hf => hf.elim (HFN.out k r hk h1 h2) (fun e => by rw [e, HH.out.body.filesW] at hk; exact h3 (Option.some.inj hk).symm)
  have noF2 : ∀ r, r ≠ .frow n → r ≠ .fnow n → r ≠ .files → ∀ k, (F k ∨ k = bf) → who k ≠ some r := fun r h1 h2 h3 k hf hk => noF k r hk h1 h2 h3 hf
  have hbl4 : bl ≤ w4.heap.size := by have := HT4.out.size; omega
  have hX4 : HasX w4 who' n ⟨x.sure, u, v⟩ ⟨f.sure, f.row ++ [⟨cut, at_, m⟩]⟩ := by
    refine ⟨HX.out.sure.turned_ HT4.out (HX.out.sureW.off (noF2 _ (by simp) (by simp) (by simp))), HX.out.sureW.more hmore, by rw [Sf.now_add]; exact hv4, by rw [← hwho]; exact lab_bears _ _ _, ⟨rc ++ [⟨at_, ⟨Ac, nc, cc⟩, cut⟩], by have := HAC.out; simp; omega, hu4, fun j r a hr ha => ?_⟩, ?_, fun h => by simp at h, ?_⟩
    · by_cases hj : j < rc.length
      · rw [List.getElem?_append_left hj] at hr
        have hjf : j < f.row.length := by have := HAC.out; omega
        rw [List.getElem?_append_left hjf] at ha
        exact ((HACTS.out j r a hr ha).turned HT4.out (noF2 _ (by simp) (by simp) (by simp))).more hmore
      · have hlen : rc.length = f.row.length := HAC.out.2.2.2.2.2
        have hj2 : j = rc.length := by
          have := (List.getElem?_eq_some_iff.1 hr).1
          simp at this
          omega
        subst hj2
        simp only [List.getElem?_append_right (Nat.le_refl _), Nat.sub_self, List.getElem?_cons_zero, Option.some.injEq] at hr
        subst hr
        rw [hlen] at ha
        simp only [List.getElem?_append_right (Nat.le_refl _), Nat.sub_self, List.getElem?_cons_zero, Option.some.injEq] at ha
        subst ha
        refine ⟨rfl, rfl, ((HM0.out.turnedB_ HT4.out (fun hp k hk hf => ?_)).mono_ hbl4), fun hp => ((q2 hp).more r1).more (by rw [← hwho]; exact r2)⟩
        have e1 := (HNEW.out hp k hk).1
        rcases hf with hf | hf
        · rcases HFW.out k hf with h | h <;> rw [e1] at h <;> cases h
        · rw [hf, HH.out.body.filesW] at e1; cases e1
    · rw [← hwho]; exact (lab_bears who1 (slV u) (.frow n)).more r2
    · exact HX.out.ok.more ⟨HAT.out, HML.out, HCUT.out⟩ HDL.out (by have := HAC.out; omega)
  have hP4 : PHas w4 (fpOf who') 1 { t with files := t.files.set n ⟨f.sure, f.row ++ [⟨cut, at_, m⟩]⟩ } b who' bf bs bn vr (fun k => if k = (n : Int) then some ⟨x.sure, u, v⟩ else ff k) rn := by
    refine ⟨?_, HH.out.body.set_file (q := 1) HAC.out.2.1 HXE.out _ _ hmore HT4.out (fun k hk => ?_) HM4.out hX4 (Nat.zero_le _), HH.out.good.set_file (by have := HAC.out; simp; omega) (Nat.zero_le _), hmore _ _ HH.out.mine, fun k => Iff.rfl, fun k h => h, fun k hk => ?_⟩
    · rw [head_set_file]
      exact (HT4.out.block b (HH.out.lt b (by rw [HH.out.mine]; rfl)) (noF b _ HH.out.mine (by simp) (by simp) (by simp))).trans HH.out.head
    · rcases hk with hk | hk
      · exact (HFW.out k hk).elim (fun h => .inr (.inr (.inr (.inr (.inl h))))) (fun h => .inr (.inr (.inr (.inr (.inr h)))))
      · rw [hk]; exact .inr (.inr (.inl HH.out.body.filesW))
    · rcases hsm k hk with h | h
      · exact Nat.lt_of_lt_of_le (HH.out.lt k h) HT4.out.size
      · exact h.2
  have HP4 := Lib.hid hP4
  have HE : Hid (Sf.add t n ⟨cut, at_, m⟩ = Sf.blown { t with files := t.files.set n ⟨f.sure, f.row ++ [⟨cut, at_, m⟩]⟩ }) := by unfold Hid Sf.add; rw [HFE.out]
  have HNX : Hid (fp.Next (fpOf who') B0) := ⟨fun k hk => (hsm k hk).elim (fun h => .inl ((HH.out.m k).2 h)) (fun h => .inr h.1), fun k hk => hk.elim⟩
  have HTM : Hid (Turned fp.M w w4) := HT4.out.mono fun k _ hk => (HH.out.m k).2 (by
    rcases hk with hk | hk
    · rcases HFW.out k hk with h | h <;> rw [h] <;> rfl
    · rw [hk, HH.out.body.filesW]; rfl)
  obtain ⟨t4, ht4⟩ : ∃ u : Sf.St, { t with files := t.files.set n ⟨f.sure, f.row ++ [⟨cut, at_, m⟩]⟩ } = u := ⟨_, rfl⟩
  have HA4 : Hid (t4.acts < 1099511627776) := by rw [← ht4]; exact HFEW.out
  rw [ht4] at HP4 HE
  have CA := Lib.hid (pact_disk HP4.out HA4.out)
  clear q1 q2 q3 q4 r1 r2 hmore hsm hu4 hv4 noF noF2 hX4 hP4 ht4 hwho
  go_wp2_with fail
  refine CA.out.mono ?_
  rintro e6 w6 ⟨rfl, hD, hT⟩
  have HD6 := Lib.hid hD
  have HT6 := Lib.hid hT
  clear CA hD hT
  go_wp2
  go_ret
  rw [HE.out]
  refine ⟨rfl, fpOf who', ⟨_, _, _, _, _, _, _, HD6.out⟩, HNX.out, HTM.out.trans HT6.out (fun k hk e => ?_)⟩
  rw [e]
  exact (HH.out.m b).2 (by rw [HH.out.mine]; rfl)
end
end Go.Proofs.YtmcbjcbnckpfkaaGreat
