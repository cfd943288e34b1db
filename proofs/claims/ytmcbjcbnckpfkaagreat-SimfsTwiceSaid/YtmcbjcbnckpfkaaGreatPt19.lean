/-
  PfIs: simfs: isNameByte, isName.
  PfNb: simfs: Remove, Rename.
  PfCr: simfs: Create.
-/
import Derived.Test.YtmcbjcbnckpfkaaGreatPt12
import Derived.JoinedCond
import Derived.BigRegion
import Derived.Test.YtmcbjcbnckpfkaaGreatPt18
namespace Go.Proofs.YtmcbjcbnckpfkaaGreat
open Go.RowKit
set_option linter.unusedVariables false
theorem nameBad {s : ByteArray} {k : Nat} {c : UInt8} (h : s.toList[k]? = some c) (hc : Sf.okChar c = false) : Sf.isName s = false := by
  unfold Sf.isName
  have : s.toList.all Sf.okChar = false := by
    rw [List.all_eq_false]
    exact ⟨c, List.mem_of_getElem? h, by simp [hc]⟩
  rw [this]; rfl
theorem nameSize (s : ByteArray) : s.toList.length = s.size := by rw [ByteArray.toList_eq]; rfl
theorem charIff (c : UInt8) : Sf.okChar c = true ↔ (97 ≤ c.toNat ∧ c.toNat ≤ 122) ∨ (48 ≤ c.toNat ∧ c.toNat ≤ 57) ∨ c.toNat = 46 ∨ c.toNat = 45 := by
  unfold Sf.okChar
  simp only [Bool.or_eq_true, Bool.and_eq_true, decide_eq_true_eq]
  omega
def IsNameB (x : Nat) (e : Ending) : Prop := ∃ r : Bool, (r = true ↔ (97 ≤ x ∧ x ≤ 122) ∨ (48 ≤ x ∧ x ≤ 57) ∨ x = 46 ∨ x = 45) ∧ e = .returned (.bool r)
set_option maxHeartbeats 4000000 in
set_option maxRecDepth 100000 in
theorem pnamebyte_any (x : Nat) (w : World) : Calls Tryz.prog 93 #[.int .u8 (x : Nat)] w (fun e w' => IsNameB x e ∧ w = w') := by
  by_cases a1 : (97 : Int) ≤ (x : Int) <;> by_cases a2 : (x : Int) ≤ 122 <;> by_cases a3 : (48 : Int) ≤ (x : Int) <;> by_cases a4 : (x : Int) ≤ 57 <;> rcases Bool.eq_false_or_eq_true ((x : Int) == 46) with a5 | a5 <;> rcases Bool.eq_false_or_eq_true ((x : Int) == 45) with a6 | a6 <;>
    (first
      | (exfalso; simp only [beq_iff_eq, beq_eq_false_iff_ne, ne_eq] at a5 a6; omega)
      | (go_enter Tryz.func93, Tryz.ntmps93
         go_wp2
         go_ret
         simp only [beq_iff_eq, beq_eq_false_iff_ne, ne_eq] at a5 a6
         refine ⟨⟨_, ?_, rfl⟩, rfl⟩
         simp
         try omega))
set_option maxHeartbeats 2000000 in
set_option maxRecDepth 100000 in
theorem pisname_any (s : ByteArray) (hs : s.size ≤ maxLen) (w : World) : Calls Tryz.prog 68 #[.string s] w (fun e w' => e = .returned (.bool (Sf.isName s)) ∧ w = w') := by
  have hl : s.size ≤ 9223372036854775807 := by simp only [maxLen] at hs; omega
  by_cases h1 : s.size < 1
  · have h1i : (s.size : Int) < 1 := by omega
    have HE : Hid (Sf.isName s = false) := by unfold Hid Sf.isName; simp; intros; omega
    go_enter Tryz.func68, Tryz.ntmps68
    go_wp2
    go_ret
    exact ⟨by rw [HE.out]; rfl, rfl⟩
  · have h1i : ¬ (s.size : Int) < 1 := by omega
    by_cases h2 : 32 < s.size
    · have h2i : (32 : Int) < (s.size : Int) := by omega
      have HE : Hid (Sf.isName s = false) := by unfold Hid Sf.isName; simp; intros; omega
      go_enter Tryz.func68, Tryz.ntmps68
      go_wp2
      go_ret
      exact ⟨by rw [HE.out]; rfl, rfl⟩
    · have h2i : ¬ (32 : Int) < (s.size : Int) := by omega
      go_enter Tryz.func68, Tryz.ntmps68
      go_wp2
      go_loop [14] (fun i => ∃ k : Nat, k ≤ s.size ∧ i = .int .i64 (k : Nat) ∧ Hid ((s.toList.take k).all Sf.okChar = true)) (fun i => s.size - (intOf i).toNat)
      case atStart => exact ⟨0, by omega, rfl, by simp [Hid]⟩
      case round =>
        obtain ⟨k, hk, rfl, HA⟩ := hrel
        by_cases hlt : k < s.size
        · have hki : (k : Int) < (s.size : Int) := by omega
          have hk0 : (0 : Int) ≤ (k : Int) := by omega
          have wk : IntKind.i64.wrap ((k : Int) + 1) = (k : Int) + 1 := by rw [IntKind.wrap_i64]; omega
          have hkl : k < s.toList.length := by rw [nameSize]; exact hlt
          obtain ⟨c, hc⟩ : ∃ c, s.toList[k]? = some c := ⟨_, List.getElem?_eq_getElem hkl⟩
          have hix : (Instr.index 9 (.string s) (.int .i64 (k : Nat))).run Tryz.prog w = .ok (.int .u8 (c.toNat : Nat)) w := by
            rw [run_index_string (P := Tryz.prog) w 9 s .i64 (k : Nat) Tryz.underlying9]
            rw [ByteArray.toList_eq] at hc
            have hd : s.data[k]? = some c := by simpa using hc
            rw [dif_pos ⟨by omega, by omega⟩]
            have hk2 : k < s.data.size := hlt
            rw [Array.getElem?_eq_getElem hk2] at hd
            have he := Option.some.inj hd
            have h2 : (s[((k : Nat) : Int).toNat]'(by rw [Int.toNat_natCast]; exact hlt)) = c := he
            rw [h2]
          obtain ⟨x, hx⟩ : ∃ x : Nat, c.toNat = x := ⟨_, rfl⟩
          have HC := Lib.hid hc
          have HOK := Lib.hid (charIff c)
          rw [hx] at hix HOK
          have HA2 : Hid (Sf.okChar c = true → (s.toList.take (k + 1)).all Sf.okChar = true) := fun h => by
            rw [List.take_add_one, HC.out, List.all_append, HA.out]; simp [h]
          have HBAD : Hid (Sf.okChar c = false → Sf.isName s = false) := fun h => nameBad HC.out h
          have CB := Lib.hid (pnamebyte_any x w)
          clear hc hkl hx HA HC
          go_wp2_with fail
          refine CB.out.mono ?_
          rintro e w1 ⟨⟨r, hr, rfl⟩, rfl⟩
          have HR := Lib.hid hr
          clear CB hr
          cases r with
          | true =>
            have HG := Lib.hid (HA2.out (HOK.out.2 (HR.out.1 rfl)))
            clear HA2 HBAD HOK HR
            go_wp2
            go_round
            case rel => exact ⟨k + 1, by omega, by go_num, HG.out⟩
            case measure => simp [intOf]; omega
          | false =>
            have HE : Hid (Sf.isName s = false) := HBAD.out (by
              cases h : Sf.okChar c with
              | false => rfl
              | true => have := HR.out.2 (HOK.out.1 h); cases this)
            clear HA2 HBAD HOK HR
            go_wp2
            go_ret
            exact ⟨by rw [HE.out]; rfl, rfl⟩
        · have hki : ¬ (k : Int) < (s.size : Int) := by omega
          have hks : k = s.size := by omega
          have HE : Hid (Sf.isName s = true) := by
            have h := HA.out
            rw [hks, List.take_of_length_le (by rw [nameSize]; exact Nat.le_refl _)] at h
            unfold Hid Sf.isName
            rw [h]
            simp
            omega
          clear HA hks
          go_wp2
          go_ret
          exact ⟨by rw [HE.out]; rfl, rfl⟩
end Go.Proofs.YtmcbjcbnckpfkaaGreat
namespace Go.Proofs.YtmcbjcbnckpfkaaGreat
open Go.RowKit
set_option linter.unusedVariables false
namespace Sf
theorem snd_inj {d : Dir} (h : (d.map (·.2)).Nodup) {x y : ByteArray × Nat} (hx : x ∈ d) (hy : y ∈ d) (e : x.2 = y.2) : x = y := by
  induction d with
  | nil => cases hx
  | cons z d ih =>
    rw [List.map_cons, List.nodup_cons] at h
    rcases List.mem_cons.1 hx with h1 | h1
    · rcases List.mem_cons.1 hy with h2 | h2
      · rw [h1, h2]
      · exact absurd (List.mem_map.2 ⟨y, h2, by rw [← e, h1]⟩ : z.2 ∈ List.map (·.2) d) h.1
    · rcases List.mem_cons.1 hy with h2 | h2
      · exact absurd (List.mem_map.2 ⟨x, h1, by rw [e, h2]⟩ : z.2 ∈ List.map (·.2) d) h.1
      · exact ih h.2 h1 h2
theorem without_lt {d : Dir} {s : ByteArray} {n : Nat} (h : (s, n) ∈ d) : (without d s).length + 1 ≤ d.length := by
  induction d with
  | nil => cases h
  | cons x d ih =>
    have hs := (without_sub d s).length_le
    unfold without at hs ih ⊢
    by_cases hx : x.1 = s
    · rw [List.filter_cons_of_neg (by simpa using hx), List.length_cons]
      omega
    · rw [List.filter_cons_of_pos (by simpa using hx), List.length_cons, List.length_cons]
      rcases List.mem_cons.1 h with e | h
      · exact absurd (by rw [← e]) hx
      · have := ih h; omega
theorem rename_len {d : Dir} {s u : ByteArray} {n m : Nat} (h : (s, n) ∈ d) : (with_ (without (without d s) u) u m).length ≤ d.length := by
  rw [(with_perm _ _ _).length_eq, List.length_cons]
  have h1 := without_lt h
  have h2 := (without_sub (without d s) u).length_le
  omega
theorem rename_nums {d : Dir} {s u : ByteArray} {n : Nat} (hd : (d.map (·.2)).Nodup) (h : (s, n) ∈ d) : ((with_ (without (without d s) u) u n).map (·.2)).Nodup := by
  rw [((with_perm _ _ _).map _).nodup_iff, List.map_cons, List.nodup_cons]
  refine ⟨fun hm => ?_, hd.sublist (((without_sub _ _).trans (without_sub _ _)).map _)⟩
  obtain ⟨e, he, e2⟩ := List.mem_map.1 hm
  have h1 := mem_without.1 (mem_without.1 he).1
  have := snd_inj hd h1.1 h e2
  rw [this] at h1
  exact h1.2 rfl
theorem remove_doN (d : Dir) (s : ByteArray) : doN d ⟨s, ByteArray.empty, 0⟩ = without d s := if_pos rfl
theorem rename_doN (d : Dir) {s u : ByteArray} (hu : isName u = true) (n : Nat) : doN d ⟨s, u, n⟩ = with_ (without (without d s) u) u n := if_neg (name_ne hu)
end Sf
section
variable {w : World} {fp : Fp} {t : Sf.St} {b : Nat}
set_option maxHeartbeats 2000000 in
set_option maxRecDepth 100000 in
theorem premove_any (h : PDisk w fp t b) (hf : Sf.Few t) (s : ByteArray) (hs : s.size ≤ maxLen) : Calls Tryz.prog 28 #[.pointer (some ⟨b, 0, none⟩), .string s] w (IsDeed PDisk fp b (Sf.remove t s) w) := by
  have HD := Lib.hid h
  obtain ⟨who, bf, bs, bn, vr, ff, rn, h⟩ := h
  have CF := Lib.hid (pfind_disk h s hs)
  obtain ⟨k, er, hge⟩ : ∃ k er, Sf.get t s = (k, er) := ⟨_, _, rfl⟩
  rw [hge] at CF
  have HE0 : Hid (Sf.remove t s = if er ≠ 0 then (er, t) else Sf.turn t (Sf.without t.seen s)) := by unfold Hid Sf.remove; rw [hge]
  by_cases he : er = 0
  · subst he
    obtain ⟨_, hfi⟩ := h.len_seen hge
    have hm := Sf.find_mem hfi
    have hnm := h.good.seen.name _ hm
    have hsz := (Sf.name_size hnm).2
    have hlt := (h.good.lens t.seen (.inr (.inl rfl))).2 _ hm
    have hl64 := (h.good.lens t.seen (.inr (.inl rfl))).1
    have HE : Hid (Sf.remove t s = Sf.turn t (Sf.without t.seen s)) := HE0.out.trans (if_neg (by simp))
    have CN := Lib.hid (pdoToNames_disk h.mono h.body.names (by have := h.good.rows; omega) hf ⟨s, ByteArray.empty, 0⟩ (by show s.size ≤ 4096; simp only at hsz; omega) (by show ByteArray.empty.size ≤ 4096; decide) (.inl rfl) (by show 0 < t.files.length; omega) (by rw [Sf.remove_doN]; have := (Sf.without_sub t.seen s).length_le; omega)
      (by rw [Sf.remove_doN]; exact h.good.nums.sublist ((Sf.without_sub _ _).map _)) (fun h => absurd rfl h))
    rw [Sf.remove_doN] at CN
    change Hid (Calls _ _ #[.pointer (some ⟨b, 0, none⟩), .agg #[.string s, .string ⟨#[]⟩, .int .i64 0]] w _) at CN
    clear h hge hfi hm hnm hlt hl64 hsz hf HE0
    go_enter Tryz.func28, Tryz.ntmps28
    go_wp2_with fail
    refine CF.out.mono ?_
    rintro e1 w1 ⟨rfl, rfl⟩
    clear CF
    go_wp2_with fail
    refine CN.out.mono ?_
    rintro e2 w2 ⟨rfl, f', hD, hN, hT⟩
    have H2 := Lib.hid hD
    have H3 := Lib.hid hN
    have H4 := Lib.hid hT
    clear CN hD hN hT
    go_wp2
    go_ret
    rw [HE.out]
    exact ⟨rfl, f', H2.out, H3.out, H4.out⟩
  · have hq : ((er : Int) != 0) = true := by rw [bne_iff_ne]; omega
    have HE : Hid (Sf.remove t s = (er, t)) := HE0.out.trans (if_pos he)
    clear h hge hf HE0 he
    go_enter Tryz.func28, Tryz.ntmps28
    go_wp2_with fail
    refine CF.out.mono ?_
    rintro e1 w1 ⟨rfl, rfl⟩
    clear CF
    go_wp2
    go_ret
    rw [HE.out]
    exact ⟨rfl, fp, HD.out, Fp.Next.refl _ _, Turned.refl _ _⟩
set_option maxHeartbeats 2000000 in
set_option maxRecDepth 100000 in
theorem prename_any (h : PDisk w fp t b) (hf : Sf.Few t) (s u : ByteArray) (hs : s.size ≤ maxLen) (hu : u.size ≤ maxLen) : Calls Tryz.prog 27 #[.pointer (some ⟨b, 0, none⟩), .string s, .string u] w (IsDeed PDisk fp b (Sf.rename t s u) w) := by
  have HD := Lib.hid h
  obtain ⟨who, bf, bs, bn, vr, ff, rn, h⟩ := h
  have CF := Lib.hid (pfind_disk h s hs)
  have CI := Lib.hid (pisname_any u hu w)
  obtain ⟨k, er, hge⟩ : ∃ k er, Sf.get t s = (k, er) := ⟨_, _, rfl⟩
  rw [hge] at CF
  have HE0 : Hid (Sf.rename t s u = if er ≠ 0 then (er, t) else if Sf.isName u = false then (2, t) else Sf.turn t (Sf.with_ (Sf.without (Sf.without t.seen s) u) u k)) := by unfold Hid Sf.rename; rw [hge]
  by_cases he : er = 0
  · subst he
    cases hi : Sf.isName u with
    | false =>
      have HE : Hid (Sf.rename t s u = (2, t)) := by rw [hi] at HE0; exact HE0.out.trans ((if_neg (by simp)).trans (if_pos rfl))
      rw [hi] at CI
      clear h hge hf HE0 hi
      go_enter Tryz.func27, Tryz.ntmps27
      go_wp2_with fail
      refine CF.out.mono ?_
      rintro e1 w1 ⟨rfl, rfl⟩
      clear CF
      go_wp2_with fail
      refine CI.out.mono ?_
      rintro e2 w2 ⟨rfl, rfl⟩
      clear CI
      go_wp2
      go_ret
      rw [HE.out]
      exact ⟨rfl, fp, HD.out, Fp.Next.refl _ _, Turned.refl _ _⟩
    | true =>
      obtain ⟨_, hfi⟩ := h.len_seen hge
      have hm := Sf.find_mem hfi
      have hnm := h.good.seen.name _ hm
      have hsz := (Sf.name_size hnm).2
      have hsu := (Sf.name_size hi).2
      have hlt := (h.good.lens t.seen (.inr (.inl rfl))).2 _ hm
      have hl64 := (h.good.lens t.seen (.inr (.inl rfl))).1
      have HE : Hid (Sf.rename t s u = Sf.turn t (Sf.with_ (Sf.without (Sf.without t.seen s) u) u k)) := by rw [hi] at HE0; exact HE0.out.trans ((if_neg (by simp)).trans (if_neg (by simp)))
      have CN := Lib.hid (pdoToNames_disk h.mono h.body.names (by have := h.good.rows; omega) hf ⟨s, u, k⟩ (by show s.size ≤ 4096; simp only at hsz; omega) (by show u.size ≤ 4096; omega) (.inr hi) hlt (by rw [Sf.rename_doN _ hi]; have := Sf.rename_len (u := u) (m := k) hm; omega)
        (by rw [Sf.rename_doN _ hi]; exact Sf.rename_nums h.good.nums hm) (fun _ => h.body.there _ ⟨t.seen, .inr (.inl rfl), _, hm, rfl⟩))
      rw [Sf.rename_doN _ hi] at CN
      change Hid (Calls _ _ #[.pointer (some ⟨b, 0, none⟩), .agg #[.string s, .string u, .int .i64 (k : Nat)]] w _) at CN
      rw [hi] at CI
      clear h hge hfi hm hnm hlt hl64 hsz hsu hf HE0 hi
      go_enter Tryz.func27, Tryz.ntmps27
      go_wp2_with fail
      refine CF.out.mono ?_
      rintro e1 w1 ⟨rfl, rfl⟩
      clear CF
      go_wp2_with fail
      refine CI.out.mono ?_
      rintro e2 w2 ⟨rfl, rfl⟩
      clear CI
      go_wp2_with fail
      refine CN.out.mono ?_
      rintro e2 w2 ⟨rfl, f', hD, hN, hT⟩
      have H2 := Lib.hid hD
      have H3 := Lib.hid hN
      have H4 := Lib.hid hT
      clear CN hD hN hT
      go_wp2
      go_ret
      rw [HE.out]
      exact ⟨rfl, f', H2.out, H3.out, H4.out⟩
  · have hq : ((er : Int) != 0) = true := by rw [bne_iff_ne]; omega
    have HE : Hid (Sf.rename t s u = (er, t)) := HE0.out.trans (if_pos he)
    clear h hge hf HE0 he CI
    go_enter Tryz.func27, Tryz.ntmps27
    go_wp2_with fail
    refine CF.out.mono ?_
    rintro e1 w1 ⟨rfl, rfl⟩
    clear CF
    go_wp2
    go_ret
    rw [HE.out]
    exact ⟨rfl, fp, HD.out, Fp.Next.refl _ _, Turned.refl _ _⟩
end
end Go.Proofs.YtmcbjcbnckpfkaaGreat
namespace Go.Proofs.YtmcbjcbnckpfkaaGreat
open Go.RowKit
set_option linter.unusedVariables false
theorem fileOk_none : FileOk Sf.noFile where
  len := fun k hk => by
    have e : k = 0 := by simpa [Sf.noFile] using hk
    subst e
    simp [Sf.bytes, Sf.noFile]
  at_ := fun k c hk => by simp [Sf.noFile] at hk
  row := by simp [Sf.noFile]
theorem hasX_none (w : World) (who : Who) (n : Nat) : HasX w who n x0 Sf.noFile :=
  ⟨OwnL.nil_ _ _ _, Bears.nil_ _ _, OwnL.nil_ _ _ _, Bears.nil_ _ _, ⟨[], rfl, OwnL.nil_ _ _ _, fun j r a h => by simp at h⟩, Bears.nil_ _ _, fun _ => rfl, fileOk_none⟩
section
variable {w w' : World} {fp : Fp} {t : Sf.St} {b : Nat} {who : Who} {bf bs bn : Nat} {vr : Sl} {ff : Int → Option RawX} {rn : List RawN} {F : Nat → Prop}
theorem PBody.more_file (h : PBody w who 0 t bf bs bn vr ff rn) (hT : Turned F w w') (hF : ∀ k, F k → who k = none ∨ who k = some .head ∨ who k = some .files)
    (hmap : IsMp fM w' bf (64 + t.acts + 1) (fun k => if k = (t.files.length : Int) then some x0 else ff k)) :
    PBody w' who 1 { t with files := t.files ++ [Sf.noFile] } bf bs bn vr (fun k => if k = (t.files.length : Int) then some x0 else ff k) rn := by
  have no : ∀ r, r ≠ Role.head → r ≠ Role.files → ∀ k, F k → who k ≠ some r := fun r h1 h2 k hf hk => by
    rcases hF k hf with h6 | h6 | h6 <;> rw [h6] at hk
    · cases hk
    · exact h1 (Option.some.inj hk).symm
    · exact h2 (Option.some.inj hk).symm
  have no1 : ∀ r k, who k = some r → r ≠ Role.head → r ≠ Role.files → ¬ F k := fun r k hk h1 h2 hf => no r h1 h2 k hf hk
  refine ⟨hmap, (h.names.turned_ hT (no1 _ _ h.namesW (by simp) (by simp))).mono_ (by show _ ≤ 64 + t.acts + 1; omega), (h.sure.turned_ hT (no1 _ _ h.sureW (by simp) (by simp))).mono_ (by show _ ≤ 64 + t.acts + 1; omega),
    h.row.turned_ hT (h.rowW.off (no _ (by simp) (by simp))), h.hrow, h.hseen, h.nil, fun i y hy => ?_, fun m hmr => ?_, h.filesW, h.namesW, h.sureW, h.rowW⟩
  · by_cases e : i = (t.files.length : Int)
    · rw [if_pos e] at hy
      obtain rfl := Option.some.inj hy
      exact ⟨t.files.length, Sf.noFile, e, by show (t.files ++ [Sf.noFile])[t.files.length]? = _; simp, hasX_none _ _ _⟩
    · rw [if_neg e] at hy
      obtain ⟨m, f, h1, h2, h3⟩ := h.file i y hy
      exact ⟨m, f, h1, by show (t.files ++ [Sf.noFile])[m]? = _; rw [List.getElem?_append_left (List.getElem?_eq_some_iff.1 h2).1]; exact h2, h3.turned hT fun k hk => ⟨no _ (by simp) (by simp) k hk, no _ (by simp) (by simp) k hk, no _ (by simp) (by simp) k hk, no _ (by simp) (by simp) k hk⟩⟩
  · by_cases e : (m : Int) = (t.files.length : Int)
    · rw [if_pos e]; rfl
    · rw [if_neg e]; exact h.there m hmr
theorem GoodS.more_file (h : GoodS 0 t) : GoodS 1 { t with files := t.files ++ [Sf.noFile] } := by
  have hl : (t.files ++ [Sf.noFile]).length = t.files.length + 1 := by simp
  refine ⟨h.room, by show (t.files ++ [Sf.noFile]).length ≤ 64 + t.acts + 1; rw [hl]; have := h.files; omega, by have := h.rows; show t.row.length ≤ t.acts + 1; omega, h.acts, h.fuse, h.sure, h.seen, h.row, fun d hd => ⟨(h.lens d hd).1, fun e he => by show _ < (t.files ++ [Sf.noFile]).length; rw [hl]; have := (h.lens d hd).2 e he; omega⟩, h.nums, fun f hf => ?_⟩
  rcases List.mem_append.1 hf with hf | hf
  · have := h.frow f hf; show f.row.length ≤ t.acts + 1; omega
  · rw [List.mem_singleton.1 hf]; show (0 : Nat) ≤ _; omega
set_option maxHeartbeats 4000000 in
set_option maxRecDepth 100000 in
theorem pcreate_any (h : PDisk w fp t b) (hf : Sf.Few t) (s : ByteArray) (hs : s.size ≤ maxLen) : Calls Tryz.prog 20 #[.pointer (some ⟨b, 0, none⟩), .string s] w (IsDeed PDisk fp b (Sf.create t s) w) := by
  have HD := Lib.hid h
  obtain ⟨who, bf, bs, bn, vr, ff, rn, h⟩ := h
  have CR := Lib.hid (prefusal_disk h)
  have CI := Lib.hid (pisname_any s hs w)
  cases hd : t.dead with
  | true =>
    have HE : Hid (Sf.create t s = (13, t)) := if_pos hd
    rw [hd] at CR
    clear h hf hd CI
    go_enter Tryz.func20, Tryz.ntmps20
    go_wp2_with fail
    refine CR.out.mono ?_
    rintro e1 w1 ⟨rfl, rfl⟩
    clear CR
    go_wp2
    go_ret
    rw [HE.out]
    exact ⟨rfl, fp, HD.out, Fp.Next.refl _ _, Turned.refl _ _⟩
  | false =>
    rw [hd] at CR
    have HE0 : Hid (Sf.create t s = if Sf.isName s = false then (2, t) else if (Sf.find t.seen s).isSome then (8, t) else if 64 ≤ t.seen.length then (3, t) else Sf.turn { t with files := t.files ++ [Sf.noFile] } (Sf.with_ t.seen s t.files.length)) := if_neg (by rw [hd]; simp)
    have h5 : w.cell? ⟨b, 5, none⟩ = some (.map (some bn)) := h.cell rfl
    have hl := h.body.names.look_ok (x := s) hs
    change (Instr.lookup 75 (.map (some bn)) (.string s) true).run Tryz.prog w = .ok (.tuple #[.int .i64 ((Sf.dirF t.seen s).getD 0), .bool (Sf.dirF t.seen s).isSome]) w at hl
    cases hi : Sf.isName s with
    | false =>
      have HE : Hid (Sf.create t s = (2, t)) := by rw [hi] at HE0; exact HE0.out.trans (if_pos rfl)
      rw [hi] at CI
      clear h hf HE0 hi hd hl h5
      go_enter Tryz.func20, Tryz.ntmps20
      go_wp2_with fail
      refine CR.out.mono ?_
      rintro e1 w1 ⟨rfl, rfl⟩
      clear CR
      go_wp2_with fail
      refine CI.out.mono ?_
      rintro e2 w2 ⟨rfl, rfl⟩
      clear CI
      go_wp2
      go_ret
      rw [HE.out]
      exact ⟨rfl, fp, HD.out, Fp.Next.refl _ _, Turned.refl _ _⟩
    | true =>
      rw [hi] at CI
      cases hfi : Sf.find t.seen s with
      | some n =>
        have HE : Hid (Sf.create t s = (8, t)) := by rw [hi, hfi] at HE0; exact HE0.out.trans ((if_neg (by simp)).trans (if_pos rfl))
        have e1 : Sf.dirF t.seen s = some (n : Int) := by unfold Sf.dirF; rw [hfi]; rfl
        rw [e1] at hl
        clear h hf HE0 hi hd hfi e1
        go_enter Tryz.func20, Tryz.ntmps20
        go_wp2_with fail
        refine CR.out.mono ?_
        rintro e1 w1 ⟨rfl, rfl⟩
        clear CR
        go_wp2_with fail
        refine CI.out.mono ?_
        rintro e2 w2 ⟨rfl, rfl⟩
        clear CI
        go_wp2
        go_ret
        rw [HE.out]
        exact ⟨rfl, fp, HD.out, Fp.Next.refl _ _, Turned.refl _ _⟩
      | none =>
        have e1 : Sf.dirF t.seen s = none := by unfold Sf.dirF; rw [hfi]; rfl
        rw [e1] at hl
        have hlen := dir_len h.body.names h.good.seen 3
        have hl64 := (h.good.lens t.seen (.inr (.inl rfl))).1
        by_cases h64 : 64 ≤ t.seen.length
        · have HE : Hid (Sf.create t s = (3, t)) := by rw [hi, hfi] at HE0; exact HE0.out.trans ((if_neg (by simp)).trans ((if_neg (by simp)).trans (if_pos h64)))
          have h64i : (64 : Int) ≤ (t.seen.length : Int) := by omega
          clear h hf HE0 hi hd hfi e1 hl64
          go_enter Tryz.func20, Tryz.ntmps20
          go_wp2_with fail
          refine CR.out.mono ?_
          rintro e1 w1 ⟨rfl, rfl⟩
          clear CR
          go_wp2_with fail
          refine CI.out.mono ?_
          rintro e2 w2 ⟨rfl, rfl⟩
          clear CI
          go_wp2
          go_ret
          rw [HE.out]
          exact ⟨rfl, fp, HD.out, Fp.Next.refl _ _, Turned.refl _ _⟩
        · have HE : Hid (Sf.create t s = Sf.turn { t with files := t.files ++ [Sf.noFile] } (Sf.with_ t.seen s t.files.length)) := by rw [hi, hfi] at HE0; exact HE0.out.trans ((if_neg (by simp)).trans ((if_neg (by simp)).trans (if_neg h64)))
          have h64i : ¬ (64 : Int) ≤ (t.seen.length : Int) := by omega
          have hsu := (Sf.name_size hi).2
          have hfl := h.good.files
          have hac := h.good.acts
          -- next
          have c2 : w.cell? ⟨b, 2, none⟩ = some (.int .i64 (t.files.length : Nat)) := h.cell rfl
          have z2 : w.frozen? ⟨b, 2, none⟩ = false := frozen_of_row w b 2 _ _ h.head
          have wn : IntKind.i64.wrap ((t.files.length : Int) + 1) = (t.files.length : Int) + 1 := by rw [IntKind.wrap_i64]; omega
          have nn : ((t.files.length + 1 : Nat) : Int) = (t.files.length : Int) + 1 := by omega
          have hh1 := head_setP h.head 2 (.int .i64 ((t.files.length : Int) + 1)) (C' := headP { t with files := t.files ++ [Sf.noFile] } bf bs bn vr) (by unfold headP; simp only [List.length_append, List.length_singleton]; rw [← nn]; rfl)
          have hT1 : Turned (fun k => k = b) w (w.setCell ⟨b, 2, none⟩ (.int .i64 ((t.files.length : Int) + 1))) := Turned.setCell (F := fun k => k = b) (Turned.refl (fun k => k = b) w) (p := ⟨b, 2, none⟩) (fun _ => rfl) _
          obtain ⟨w1, hw1⟩ : ∃ w1, w.setCell ⟨b, 2, none⟩ (.int .i64 ((t.files.length : Int) + 1)) = w1 := ⟨_, rfl⟩
          rw [hw1] at hh1 hT1
          have c1 : w1.cell? ⟨b, 1, none⟩ = some (.map (some bf)) := head_cellP hh1 rfl
          have hne : bf ≠ b := fun e => by have := h.body.filesW; rw [e, h.mine] at this; cases this
          have hm1 : IsMp fM w1 bf (64 + t.acts + 0) ff := h.body.files.turned_ hT1 hne
          obtain ⟨w2, hup, hm2, hg2⟩ := hm1.upd (x := (t.files.length : Int)) (by simp only [maxLen]; omega) (WalkArith.wf_i64 (by omega)) x0
          change (Instr.mapUpdate 77 (.map (some bf)) (.int .i64 (t.files.length : Nat)) (.agg #[.slice none 0 0, .slice none 0 0, .slice none 0 0])).run Tryz.prog w1 = .ok () w2 at hup
          have hT2 : Turned (fun k => k = b ∨ k = bf) w w2 := (hT1.mono fun _ _ h => .inl h).trans (Turned.of_grown hg2) (fun k _ h => .inr (Option.some.inj h).symm)
          have hF : ∀ k, (k = b ∨ k = bf) → who k = none ∨ who k = some .head ∨ who k = some .files := fun k hk => by
            rcases hk with e | e <;> rw [e]
            · exact .inr (.inl h.mine)
            · exact .inr (.inr h.body.filesW)
          have hP : PHas w2 fp 1 { t with files := t.files ++ [Sf.noFile] } b who bf bs bn vr (fun k => if k = (t.files.length : Int) then some x0 else ff k) rn :=
            ⟨(hg2.block b (Nat.lt_of_lt_of_le (h.lt b (by rw [h.mine]; rfl)) hT1.size) (fun e => hne (Option.some.inj e).symm)).trans hh1, h.body.more_file hT2 hF hm2, h.good.more_file, h.mine, h.m, h.r, fun k hk => Nat.lt_of_lt_of_le (h.lt k hk) hT2.size⟩
          have hNm : IsMp dM w2 bn (64 + t.acts) (Sf.dirF t.seen) := h.body.names.turned_ hT2 (fun e => by
            have := h.body.namesW
            rcases e with e | e <;> rw [e] at this
            · rw [h.mine] at this; cases this
            · rw [h.body.filesW] at this; cases this)
          have hD := Sf.create_doN h.good.seen hi hfi t.files.length
          have CN := Lib.hid (pdoToNames_disk hP hNm (by have := h.good.rows; show t.row.length ≤ t.acts; omega) hf ⟨ByteArray.empty, s, t.files.length⟩ (by show ByteArray.empty.size ≤ 4096; decide) (by show s.size ≤ 4096; omega) (.inr hi) (by show t.files.length < (t.files ++ [Sf.noFile]).length; simp)
            (by show (Sf.doN t.seen _).length ≤ 64; rw [hD, (Sf.with_perm _ _ _).length_eq, List.length_cons]; omega)
            (by
              show ((Sf.doN t.seen _).map _).Nodup
              rw [hD, ((Sf.with_perm _ _ _).map _).nodup_iff, List.map_cons, List.nodup_cons]
              refine ⟨fun hm => ?_, h.good.nums⟩
              obtain ⟨e, he, e2⟩ := List.mem_map.1 hm
              have := (h.good.lens t.seen (.inr (.inl rfl))).2 e he
              simp only at e2
              omega) (fun _ => by rw [if_pos rfl]; rfl))
          rw [show Sf.doN ({ t with files := t.files ++ [Sf.noFile] } : Sf.St).seen ⟨ByteArray.empty, s, t.files.length⟩ = Sf.with_ t.seen s t.files.length from hD] at CN
          change Hid (Calls _ _ #[.pointer (some ⟨b, 0, none⟩), .agg #[.string ⟨#[]⟩, .string s, .int .i64 (t.files.length : Nat)]] w2 _) at CN
          have HT2 : Hid (Turned fp.M w w2) := hT2.mono fun k _ hk => (h.m k).2 (by
            rcases hk with e | e <;> rw [e]
            · rw [h.mine]; rfl
            · rw [h.body.filesW]; rfl)
          clear h hf HE0 hi hd hfi e1 hl64 hsu hfl hac nn hh1 hT1 hne hm1 hm2 hg2 hT2 hF hP hNm hD h64
          go_enter Tryz.func20, Tryz.ntmps20
          go_wp2_with fail
          refine CR.out.mono ?_
          rintro e1 w1 ⟨rfl, rfl⟩
          clear CR
          go_wp2_with fail
          refine CI.out.mono ?_
          rintro e2 w2 ⟨rfl, rfl⟩
          clear CI
          go_wp2_with fail
          refine CN.out.mono ?_
          rintro e2 w3 ⟨rfl, f', hD, hN, hT⟩
          have H2 := Lib.hid hD
          have H3 := Lib.hid hN
          have H4 := Lib.hid hT
          clear CN hD hN hT
          go_wp2
          go_ret
          rw [HE.out]
          exact ⟨rfl, f', H2.out, ⟨fun k hk => (H3.out.m k hk).imp id (fun h => Nat.le_trans HT2.out.size h), fun k hk => (H3.out.r k hk).imp id (fun h => Nat.le_trans HT2.out.size h)⟩, HT2.out.trans H4.out (fun k _ h => h)⟩
end
end Go.Proofs.YtmcbjcbnckpfkaaGreat
