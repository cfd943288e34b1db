/-
  RBpE: stookref10.Encode.
  BpLawM: What the laws of layer 10 ask of the mathematics.
  App: append on a slice of bytes that the call itself made: what it leaves, in the words of this text.
-/
import Derived.Test.YtaedhccmdbodlaaPk10
import Derived.Test.YtaedhccmdbodlaaPk06
import Derived.Test.YtaedhccmdbodlaaPk03
import Derived.Laws.AppendOwnNone
namespace Go.Proofs.Ytaedhccmdbodlaa
open Go.RowKit
set_option linter.unusedVariables false

set_option maxHeartbeats 4000000 in
set_option maxRecDepth 100000 in
theorem rencode_any (P : List Vo.Pc) (v : Value) (b : List Nat) (u : Value) (B : Nat) (w : World) (hv : Lv pK w B v P) (hu : Lv yK w B u b) (hB : B ≤ w.heap.size) :
    Calls Try.prog 21 #[.agg #[v], u] w (IsLE iK (Bp.encE P b) w) := by
  obtain ⟨W, hW⟩ : ∃ W, w.alloc (.cells #[v] 24) = W := ⟨_, rfl⟩
  obtain ⟨d0, hsz, hb⟩ := boxed hW
  have HM := Lib.hid (rbegin_any P v b u B W (hv.below_ hb hB) (hu.below_ hb hB) (Nat.le_trans hB hb.size))
  have HV := Lib.hid hv
  have HU := Lib.hid hu
  have HB0 := Lib.hid hb
  have HBB := Lib.hid hB
  have HSZ := Lib.hid hsz
  obtain ⟨A, c, rfl, -, -, -, -, -⟩ := hv
  obtain ⟨A2, c2, rfl, k1, k2, -, -, -⟩ := hu
  have hll : b.length ≤ 9223372036854775807 := by simp only [maxLen] at k2; omega
  clear hb hsz hB k1 k2
  by_cases hm : Vo.May P
  · by_cases hbig : 4096 < b.length
    · have hbe : Bp.beginE P b = ([], 3) := by unfold Bp.beginE; rw [if_pos hm, if_pos hbig]
      have HX : Hid (Bp.encE P b = ([], 3)) := by unfold Hid Bp.encE; rw [if_pos hm, if_pos hbig]
      rw [hbe] at HM
      clear hm hbig hbe
      go_enter Try.func21, Try.ntmps21
      go_wp2_with (fail)
      refine (HM.out).mono ?_
      rintro e w1 ⟨A1, c1, rfl, ho, hb1⟩
      have HB1 := Lib.hid (HB0.out.trans (hb1.mono HB0.out.size))
      clear hb1 HM ho
      go_wp2
      go_ret2
      exact IsLE.none_b HX.out rfl HB1.out
    · have hbe : Bp.beginE P b = (Bp.beginL P b, 0) := by unfold Bp.beginE; rw [if_pos hm, if_neg hbig]
      have HX : Hid (Bp.encE P b = (Bp.enc P b, 0)) := by unfold Hid Bp.encE; rw [if_pos hm, if_neg hbig]
      rw [hbe] at HM
      have hle := (Vo.may_iff.1 hm).1
      have hln : b.length ≤ 4096 := by omega
      have HST : Hid (∀ (l : List Int) (r : Value) w', Below W.heap.size W w' → Lv iK w' w'.heap.size r l → l.length ≤ 4096 → Calls Try.prog 42 #[.agg #[.slice A P.length c], r] w' (fun e w'' => e = .returned (.tuple #[.int .i64 ((Bp.pickE P l).1 : Nat), .int .i64 (Bp.pickE P l).2.1, .bool (Bp.pickE P l).2.2]) ∧ Below w'.heap.size w' w'')) := fun l r w' hb hr hl => rstep_any P _ l r w'.heap.size w' ((HV.out.below_ (HB0.out.trans (hb.mono HB0.out.size)) HBB.out).mono_ (Nat.le_trans HBB.out (HB0.out.trans (hb.mono HB0.out.size)).size)) hr (Nat.le_refl _) hl hle
      have HBX : Hid (∀ w', Below W.heap.size W w' → w'.cell? ⟨w.heap.size, 0, none⟩ = some (.slice A P.length c)) := fun w' hb => (hb.cell (p := ⟨w.heap.size, 0, none⟩) (by show w.heap.size < _; have := HSZ.out; omega)).trans d0
      have hbl : (Bp.beginL P b).length = b.length := Bp.begin_len
      obtain ⟨L0, hL0⟩ : ∃ L, Bp.beginL P b = L := ⟨_, rfl⟩
      have HN0 : Hid (Bp.nf (Bp.jn P) L0 = Bp.enc P b) := by rw [← hL0]; rfl
      rw [hL0] at hbl HM
      clear hm hbig hbe hL0
      go_enter Try.func21, Try.ntmps21
      go_wp2_with (fail)
      refine (HM.out).mono ?_
      rintro e w1 ⟨A1, c1, rfl, ho, hb1⟩
      have HB1 := Lib.hid hb1
      have HO1 : Hid (OwnL iK w1 W.heap.size (.slice A1 L0.length c1) L0) := ho
      have HBL := Lib.hid hbl
      simp only [hbl, Int.natCast_zero]
      clear hb1 HM ho hbl
      go_wp2
      go_loopw [6, 8, 9, 10, 11] (fun s i _ _ _ wr => ∃ (k : Nat) (L : List Int) (Ak : Option Addr) (ck nk : Nat), k ≤ b.length ∧ i = .int .i64 k ∧ s = .slice Ak nk ck ∧ Hid (L.length = nk ∧ nk + k ≤ b.length) ∧ Hid (Bp.nf (Bp.jn P) L = Bp.enc P b) ∧ Hid (OwnL iK wr W.heap.size (.slice Ak nk ck) L) ∧ Hid (Below W.heap.size W wr)) (fun _ i _ _ _ _ => b.length - (intOf i).toNat)
      case atStart => exact ⟨0, L0, A1, c1, b.length, Nat.zero_le _, rfl, rfl, ⟨HBL.out, by omega⟩, HN0.out, by have h := HO1.out; rw [HBL.out] at h; exact h, HB1.out⟩
      case round =>
        obtain ⟨k, L, Ak, ck, nk, hk, rfl, rfl, HLN, HNF, HO, HBr⟩ := hrel
        have wk : IntKind.i64.wrap ((k : Int) + 1) = (k : Int) + 1 := by rw [IntKind.wrap_i64]; omega
        have e0 := HBX.out wr HBr.out
        by_cases hlt : k < b.length
        · have hki : (k : Int) < (b.length : Int) := by omega
          have hL := HLN.out.1
          have HC := HST.out L _ wr HBr.out (by have h := HO.out.form_; exact h) (by have := HLN.out; omega)
          have HKL := Lib.hid hlt
          clear hlt hk
          rcases Bp.pickE_cases P L with ⟨hp, hs⟩ | ⟨x, T, hp, hs, hxl, hTl⟩
          · rw [hp] at HC
            have HC1 : Hid (Calls Try.prog 42 #[.agg #[.slice A P.length c], .slice Ak nk ck] wr (fun e w'' => e = .returned (.tuple #[.int .i64 0, .int .i64 0, .bool false]) ∧ Below wr.heap.size wr w'')) := HC
            have HF : Hid (Bp.enc P b = L) := by unfold Hid; rw [← HNF.out, Bp.nf_none hs]
            clear HC hp hs hL
            go_wp2_with (fail)
            refine (HC1.out).mono ?_
            rintro e w2 ⟨rfl, hb2⟩
            have HO2 := Lib.hid (HO.out.below_ hb2 (Nat.le_refl _))
            have HB2 := Lib.hid (HBr.out.trans (hb2.mono HBr.out.size))
            clear hb2 HC1 HO HBr
            go_wp2
            go_ret2
            exact IsLE.of HX.out (by rw [HF.out, HLN.out.1]) rfl (by rw [HF.out]; exact HO2.out.mono_ (by have := HSZ.out; omega)) (HB0.out.trans (HB2.out.mono (by have := HSZ.out; omega)))
          · rw [hp] at HC
            have HC1 : Hid (Calls Try.prog 42 #[.agg #[.slice A P.length c], .slice Ak nk ck] wr (fun e w'' => e = .returned (.tuple #[.int .i64 (x : Nat), .int .i64 (T : Nat), .bool true]) ∧ Below wr.heap.size wr w'')) := HC
            have HNF2 : Hid (Bp.nf (Bp.jn P) (Bp.joined L x (T : Int)) = Bp.enc P b) := by unfold Hid; rw [← HNF.out, Bp.nf_step hs]
            have hjl := Bp.joined_len (t := (T : Int)) hxl
            have HLN2 : Hid ((Bp.joined L x (T : Int)).length + 1 = nk) := by unfold Hid; omega
            have HXL : Hid (x + 1 < L.length ∧ L.length ≤ 4096 ∧ I64 (T : Int)) := ⟨hxl, by have := HLN.out; omega, by unfold I64; omega⟩
            clear HC hp hs hL hxl hTl hjl
            go_wp2_with (fail)
            refine (HC1.out).mono ?_
            rintro e w2 ⟨rfl, hb2⟩
            have HO2 := Lib.hid (HO.out.below_ hb2 (Nat.le_refl _))
            have HB2 := Lib.hid (HBr.out.trans (hb2.mono HBr.out.size))
            have HJ2 := Lib.hid (rjoined_any L _ x (T : Int) w2.heap.size w2 HO2.out.form_ (Nat.le_refl _) HXL.out.1 HXL.out.2.1 HXL.out.2.2)
            obtain ⟨J, hJ⟩ : ∃ J, Bp.joined L x (T : Int) = J := ⟨_, rfl⟩
            rw [hJ] at HJ2 HNF2 HLN2
            clear hb2 HC1 HO HBr hJ e0 HNF
            go_wp2_with (fail)
            refine (HJ2.out).mono ?_
            rintro e w3 ⟨A3, c3, rfl, ho, hb3⟩
            have HB3 := Lib.hid (HB2.out.trans (hb3.mono HB2.out.size))
            have HO3 := Lib.hid (ho.mono_ HB2.out.size)
            clear ho hb3 HJ2 HO2 HB2
            go_wp2
            go_roundw
            case rel => exact ⟨k + 1, J, A3, c3, J.length, HKL.out, by go_num, rfl, ⟨rfl, by have := HLN.out; have := HLN2.out; omega⟩, HNF2.out, HO3.out, HB3.out⟩
            case measure => simp [intOf]; have := HKL.out; omega
        · have hkn : k = b.length := by omega
          have hki : ¬ (k : Int) < (b.length : Int) := by omega
          have hL0 : L.length = 0 := by have := HLN.out; omega
          have hs : Bp.stepOf (Bp.jn P) L = none := by rw [List.eq_nil_of_length_eq_zero hL0]; rfl
          have HF : Hid (Bp.enc P b = L) := by unfold Hid; rw [← HNF.out, Bp.nf_none hs]
          clear hlt hk hL0 hs hkn
          go_wp2
          go_ret2
          exact IsLE.of HX.out (by rw [HF.out, HLN.out.1]) rfl (by rw [HF.out]; exact HO.out.mono_ (by have := HSZ.out; omega)) (HB0.out.trans (HBr.out.mono (by have := HSZ.out; omega)))
  · have hbe : Bp.beginE P b = ([], 11) := by unfold Bp.beginE; rw [if_neg hm]
    have HX : Hid (Bp.encE P b = ([], 11)) := by unfold Hid Bp.encE; rw [if_neg hm]
    rw [hbe] at HM
    clear hm hbe
    go_enter Try.func21, Try.ntmps21
    go_wp2_with (fail)
    refine (HM.out).mono ?_
    rintro e w1 ⟨A1, c1, rfl, ho, hb1⟩
    have HB1 := Lib.hid (HB0.out.trans (hb1.mono HB0.out.size))
    clear hb1 HM ho
    go_wp2
    go_ret2
    exact IsLE.none_b HX.out rfl HB1.out
end Go.Proofs.Ytaedhccmdbodlaa
namespace Go.Proofs.Ytaedhccmdbodlaa.Bp
open Vo (Pc May)
theorem encE_cases (P : List Pc) (b : List Nat) : (May P ∧ b.length ≤ 4096 ∧ encE P b = (enc P b, 0)) ∨ (∃ E, E ≠ 0 ∧ encE P b = ([], E)) := by
  unfold encE
  by_cases hm : May P
  · rw [if_pos hm]
    by_cases hl : 4096 < b.length
    · rw [if_pos hl]; exact .inr ⟨3, by decide, rfl⟩
    · rw [if_neg hl]; exact .inl ⟨hm, by omega, rfl⟩
  · rw [if_neg hm]; exact .inr ⟨11, by decide, rfl⟩
/-- No two that stand side by side in what Encode answers have a join. -/
theorem enc_no (P : List Pc) (b : List Nat) {i : Nat} {x y : Int} (h1 : (enc P b)[i]? = some x) (h2 : (enc P b)[i + 1]? = some y) : Vo.findE P x y = (0, false) := by
  have h := stepOf_none.1 (nf_end (J := jn P) (l := beginL P b)) i
  unfold enc at h1 h2
  rw [cand_of h1 h2] at h
  unfold Vo.findE
  rw [if_neg (jn_none h)]
/-! The rows that steps come to, from the one that one begins with. -/
def Run (P : List Pc) (b : List Nat) (k : Nat) (m : List Int) : Prop := Toks P m ∧ textL P m = b ∧ nf (jn P) m = enc P b ∧ m.length + k = b.length
theorem Run.begin {P : List Pc} {b : List Nat} (hm : May P) (hok : ∀ q ∈ P, q.byte < 256) (hb : ∀ c ∈ b, c < 256) : Run P b 0 (beginL P b) :=
  ⟨begin_toks hm hok hb, begin_text hm hok hb, rfl, by rw [begin_len]; omega⟩
theorem Run.dec {P : List Pc} {b : List Nat} {k : Nat} {m : List Int} (hm : May P) (h : Run P b k m) (hl : b.length ≤ 4096) : decE P m = (b, 0) := by
  unfold decE
  rw [if_pos hm, if_pos h.1, h.2.1, if_neg (by omega)]
theorem Run.next {P : List Pc} {b : List Nat} {k : Nat} {m : List Int} (hm : May P) (h : Run P b k m) (hl : b.length ≤ 4096) :
    (stepE P m = (m, false, 0) ∧ decE P m = (b, 0) ∧ m = enc P b) ∨ (∃ m', stepE P m = (m', true, 0) ∧ decE P m' = (b, 0) ∧ Run P b (k + 1) m' ∧ m'.length + 1 = m.length) := by
  have hs : stepE P m = match stepOf (jn P) m with | none => (m, false, 0) | some m => (m, true, 0) := by
    unfold stepE
    rw [if_pos hm, if_neg (by have := h.2.2.2; omega), if_pos h.1]
    rfl
  cases e : stepOf (jn P) m with
  | none =>
    rw [e] at hs
    exact .inl ⟨hs, h.dec hm hl, by rw [← h.2.2.1, nf_none e]⟩
  | some m' =>
    rw [e] at hs
    have hlen := step_len e
    have hr : Run P b (k + 1) m' := ⟨step_toks h.1 e, (step_textL (Vo.may_iff.1 hm).2.1 e).trans h.2.1, (nf_step e).symm.trans h.2.2.1, by have := h.2.2.2; omega⟩
    exact .inr ⟨m', hs, hr.dec hm hl, hr, hlen⟩
theorem Run.done {P : List Pc} {b : List Nat} {m : List Int} (h : Run P b b.length m) : m = enc P b := by
  have h0 : m = [] := List.eq_nil_of_length_eq_zero (by have := h.2.2.2; omega)
  subst h0
  rw [← h.2.2.1]
  exact (nf_none (stepOf_none.2 (fun i => by
    cases e : cand (jn P) [] i with
    | none => rfl
    | some x => exact absurd (cand_lt e) (by simp)))).symm
theorem step_enc {P : List Pc} {b : List Nat} (hm : May P) (hok : ∀ q ∈ P, q.byte < 256) (hb : ∀ c ∈ b, c < 256) (hl : b.length ≤ 4096) : stepE P (enc P b) = (enc P b, false, 0) := by
  have hle : (enc P b).length ≤ b.length := enc_len
  unfold stepE
  rw [if_pos hm, if_neg (by omega), if_pos (enc_toks hm hok hb), show stepOf (jn P) (enc P b) = none from nf_end]
end Go.Proofs.Ytaedhccmdbodlaa.Bp
namespace Go.Proofs.Ytaedhccmdbodlaa
open Go.RowKit
set_option linter.unusedVariables false

def u8 (x : Nat) : Value := .int .u8 (x : Nat)

/-- The call's own slice v, in a block from base on, holds the bytes l. -/
def OwnB (w : World) (base : Nat) (v : Value) (l : List Nat) : Prop := (∀ x ∈ l, x < 256) ∧ w.ownsRow base 5 1 v l.length (l.map u8)

/-- The value v is a slice that holds the bytes l, in a block below B. -/
def Bv (w : World) (B : Nat) (v : Value) (l : List Nat) : Prop := ∃ A c, v = .slice A l.length c ∧ l.length ≤ c ∧ c ≤ maxLen ∧ (A = none → c = 0) ∧ Bts w B A l

theorem info5 : (Try.prog.info? 5).map (fun i => (i.zero, i.size, i.bytes)) = some (some (.int .u8 0), 1, 1) := by kernel_rfl

section
variable {w w' : World} {base B : Nat} {v : Value} {l : List Nat}
theorem OwnB.nil_ (w : World) (base : Nat) : OwnB w base (.slice none 0 0) [] := ⟨by simp, World.ownsRow_nil w base _ 1⟩
theorem OwnB.lt_ (h : OwnB w base v l) : ∀ k, v.ownBlock = some k → base ≤ k ∧ k < w.heap.size := h.2.lt
theorem OwnB.form_ (h : OwnB w base v l) : Bv w w.heap.size v l := by
  obtain ⟨hb, hl, ⟨rfl, h0⟩ | ⟨g, cap, cur, rfl, hg, hh, hn, hc, hs, ht⟩⟩ := h
  · obtain rfl : l = [] := List.eq_nil_of_length_eq_zero h0
    exact ⟨none, 0, rfl, by simp, by simp [maxLen], by simp, Bts.nil_ _ _ _⟩
  · refine ⟨some ⟨g, 0, none⟩, cap, rfl, hn, hc, by simp, hb, fun _ => ⟨g, 0, rfl, ?_, fun j c hj => ?_⟩⟩
    · rcases Nat.lt_or_ge g w.heap.size with h1 | h1
      · exact h1
      · rw [Array.getElem?_eq_none h1] at hh; cases hh
    · rw [Nat.zero_add, cell_of_row w g j cur _ (0, 0) hh]
      have hj' : j < l.length := (List.getElem?_eq_some_iff.1 hj).1
      have h2 : (l.map u8)[j]? = some (u8 c) := by rw [List.getElem?_map, hj]; rfl
      rw [← ht, List.getElem?_take, if_pos (by omega)] at h2
      simpa [u8] using h2
theorem OwnB.kept_ (h : OwnB w base v l) {row : Option Nat} (hg : w.grownBy w' row) (hne : v.ownBlock = none ∨ v.ownBlock ≠ row) : OwnB w' base v l := ⟨h.1, h.2.kept hg hne⟩
theorem OwnB.alloc_ (h : OwnB w base v l) (o : Obj) : OwnB (w.alloc o) base v l := ⟨h.1, h.2.alloc o⟩
theorem OwnB.drewN_ (h : OwnB w base v l) (n : Nat) : OwnB (w.drewN n) base v l := h
theorem OwnB.below_ (h : OwnB w base v l) {B : Nat} (hb : Below B w w') (hB : w.heap.size ≤ B) : OwnB w' base v l := by
  refine ⟨h.1, h.2.1, ?_⟩
  rcases h.2.2 with hn | ⟨g, cap, cur, rfl, hg, hh, hr⟩
  · exact .inl hn
  · refine .inr ⟨g, cap, cur, rfl, hg, ?_, hr⟩
    have hlt : g < w.heap.size := (Array.getElem?_eq_some_iff.1 hh).1
    rw [hb.block g (by omega)]
    exact hh
theorem OwnB.mono_ (h : OwnB w base v l) {base' : Nat} (hb : base' ≤ base) : OwnB w base' v l := by
  refine ⟨h.1, h.2.1, ?_⟩
  rcases h.2.2 with hn | ⟨g, cap, cur, rfl, hg, hr⟩
  · exact .inl hn
  · exact .inr ⟨g, cap, cur, rfl, by omega, hr⟩
theorem OwnB.lit_ (w : World) {base : Nat} (hb : base ≤ w.heap.size) {c : Nat} {x : Int} (hx : x = (c : Nat)) (hc : c < 256) : OwnB (w.alloc (.cells #[.int .u8 x] 5)) base (.slice (some ⟨w.heap.size, 0, none⟩) 1 1) [c] := by
  subst hx
  exact ⟨by simpa using hc, by simpa [u8] using World.ownsRow_lit (base := base) (e := 5) (size := 1) w #[.int .u8 (c : Nat)] 1 hb (by simp [maxLen]) (by simp)⟩
theorem Bv.below_ (h : Bv w B v l) {B' : Nat} (hb : Below B' w w') (hB : B ≤ B') : Bv w' B v l := by
  obtain ⟨A, c, e, h1, h2, h3, h4⟩ := h
  exact ⟨A, c, e, h1, h2, h3, h4.below hb hB⟩
theorem Bv.mono_ (h : Bv w B v l) {B' : Nat} (hB : B ≤ B') : Bv w B' v l := by
  obtain ⟨A, c, e, h1, h2, h3, h4⟩ := h
  exact ⟨A, c, e, h1, h2, h3, h4.mono hB⟩
theorem Bv.take_ {A : Option Addr} {n c : Nat} (h : Bv w B (.slice A n c) l) {k : Nat} (hk : k ≤ l.length) : Bv w B (.slice A k c) (l.take k) := by
  obtain ⟨A', c', e, h1, h2, h3, h4, h5⟩ := h
  injection e with e1 e2 e3
  subst e1 e3
  refine ⟨A, c, by rw [List.length_take, Nat.min_eq_left hk], by rw [List.length_take]; omega, h2, h3, fun x hx => h4 x (List.mem_of_mem_take hx), fun hp => ?_⟩
  obtain ⟨b, off, e, hb, hc⟩ := h5 (by rw [List.length_take] at hp; omega)
  refine ⟨b, off, e, hb, fun j u hj => hc j u ?_⟩
  rw [List.getElem?_take] at hj
  split at hj
  · exact hj
  · cases hj
theorem Bv.one_ (w : World) {c : Nat} {x : Int} (hx : x = (c : Nat)) (hc : c < 256) : Bv (w.alloc (.cells #[.int .u8 x] 5)) (w.heap.size + 1) (.slice (some ⟨w.heap.size, 0, none⟩) 1 1) [c] := by
  subst hx
  have h := (OwnB.lit_ w (Nat.le_refl _) rfl hc).form_
  simpa using h
end

theorem or128 (q : Nat) : bits BinOp.or IntKind.u8 ((q : Int) % 256) 128 = ((q % 128 + 128 : Nat) : Int) := by
  have h := (bits_nat .u8 8 (by decide) wraps_u8 (q % 256) 128 (by omega) (by decide)).2
  have hd : ∀ a : Nat, a < 256 → (a ||| 128) = a % 128 + 128 := by decide +kernel
  rw [hd _ (by omega)] at h
  have e : (q : Int) % 256 = ((q % 256 : Nat) : Int) := by simp
  rw [e]
  refine h.trans ?_
  congr 2
  omega

theorem and127 (c : Nat) (hc : c < 256) : bits BinOp.and IntKind.u8 (c : Int) 127 = ((c % 128 : Nat) : Int) := by
  have h := bits_mask .u8 8 (by decide) wraps_u8 7 (by decide) (c : Int) (by omega) (by omega)
  refine h.trans ?_
  simp

theorem wraps_u64 (n : Int) (h₀ : 0 ≤ n) (h₁ : n < 2 ^ 64) : IntKind.u64.wrap n = n := by rw [IntKind.wrap_u64]; omega

theorem or_step (k X c : Nat) (hk : k ≤ 9) (hX : X < 128 ^ k) (hc : c < 256) (h9 : 8 < k → c % 128 < 2) :
    bits BinOp.or IntKind.u64 (X : Int) (IntKind.u64.wrap (IntKind.u64.wrap (bits BinOp.and IntKind.u8 (c : Int) 127) * 2 ^ (7 * k))) = ((X + c % 128 * 128 ^ k : Nat) : Int) := by
  have e : (128 : Nat) ^ k = 2 ^ (7 * k) := by rw [Nat.pow_mul]
  rw [e] at hX ⊢
  have hlt : c % 128 * 2 ^ (7 * k) < 2 ^ 64 := by
    by_cases h8 : 8 < k
    · obtain rfl : k = 9 := by omega
      have := h9 h8
      omega
    · have h1 : c % 128 * 2 ^ (7 * k) < 128 * 2 ^ (7 * k) := Nat.mul_lt_mul_of_pos_right (by omega) (Nat.two_pow_pos _)
      have h2 : (2 : Nat) ^ (7 * k) ≤ 2 ^ 56 := Nat.pow_le_pow_right (by decide) (by omega)
      omega
  have hX64 : X < 2 ^ 64 := by
    have h2 : (2 : Nat) ^ (7 * k) ≤ 2 ^ 63 := Nat.pow_le_pow_right (by decide) (by omega)
    omega
  rw [and127 c hc, wraps_u64 ((c % 128 : Nat) : Int) (by omega) (by omega)]
  have e2 : ((c % 128 : Nat) : Int) * 2 ^ (7 * k) = ((c % 128 * 2 ^ (7 * k) : Nat) : Int) := by simp
  rw [e2, wraps_u64 ((c % 128 * 2 ^ (7 * k) : Nat) : Int) (by omega) (by exact_mod_cast hlt), (bits_nat .u64 64 (by decide) wraps_u64 X _ hX64 hlt).2, Nat.or_comm, Nat.mul_comm, ← Nat.two_pow_add_eq_or_of_lt hX, Nat.mul_comm, Nat.add_comm]

/-- What an append leaves. -/
structure Apd (w w' : World) (base : Nat) (v v' : Value) (l : List Nat) : Prop where
  own : OwnB w' base v' l
  grown : w.grownBy w' v.ownBlock

set_option maxRecDepth 100000 in
theorem run_append_bytes (w : World) (base : Nat) (v : Value) (l : List Nat) (hown : OwnB w base v l) (x : Value) (B : Nat) (m : List Nat) (hx : Bv w B x m) (hsz : l.length + m.length ≤ 140737488355328) (hbase : base ≤ w.heap.size) :
    ∃ v' w', (Builtin.append_ #[25, 25] 25 #[v, x]).run Try.prog w = .ok v' w' ∧ Apd w w' base v v' (l ++ m) := by
  obtain ⟨i0, hi, hz0, hz1, hz2⟩ := info_parts info5
  obtain ⟨A, c, rfl, hmc, hcm, hnil, hm⟩ := hx
  cases A with
  | none =>
    obtain rfl := hnil rfl
    obtain rfl : m = [] := List.eq_nil_of_length_eq_zero (by omega)
    refine ⟨v, w, run_append_owned_none w base _ _ _ i0 1 Try.underlying25 hi v l.length _ hown.2, by simpa using hown, ⟨rfl, rfl, rfl, Nat.le_refl _, fun _ _ _ => rfl⟩⟩
  | some ad =>
    have hnews : ∀ j u, (m.map u8)[j]? = some u → w.cell? (ad.add j) = some u := by
      intro j u hu
      rw [List.getElem?_map] at hu
      cases hj : m[j]? with
      | none => rw [hj] at hu; cases hu
      | some c =>
        rw [hj] at hu
        have hj' : j < m.length := (List.getElem?_eq_some_iff.1 hj).1
        obtain ⟨b, off, e, _, hc⟩ := hm.2 (by omega)
        injection e with e
        subst e
        have := hc j c hj
        have ea : (⟨b, off, none⟩ : Addr).add j = ⟨b, off + j, none⟩ := by unfold Addr.add; split <;> simp_all
        rw [ea, this]
        simpa [u8] using hu
    obtain ⟨v', w', hr, h1, h2, h3⟩ := run_append_own w base 25 25 5 i0 (.int .u8 0) 1 1 Try.underlying25 hi hz0 hz1 hz2 rfl (by decide) v l.length (l.map u8) hown.2 ad m.length c (m.map u8) (by simp) hnews
      (by intro u hu; obtain ⟨_, _, rfl⟩ := List.mem_map.1 hu; rfl) (by simp only [maxLen]; omega) (by omega) hbase
    refine ⟨v', w', hr, ⟨⟨?_, by simpa using h1⟩, h2⟩⟩
    intro x hx
    rcases List.mem_append.1 hx with h | h
    · exact hown.1 x h
    · exact hm.1 x h

theorem wpList_append_bytes (w : World) {ops : Array Oper} {rest : List Oper} {o : Oper} {a : Act} {Q : Exit → Act → World → Prop} (hgd : o.guard = none) (s t : Operand)
    (ho : o.op = .call { callee := .builtin .append, args := #[s, t], argTypes := #[25, 25] }) (hty : o.type = 25)
    (base : Nat) (v : Value) (hs : a.eval s = v) (l : List Nat) (hown : OwnB w base v l) (x : Value) (hx0 : a.eval t = x) (B : Nat) (m : List Nat) (hx : Bv w B x m) (hsz : l.length + m.length ≤ 140737488355328) (hbase : base ≤ w.heap.size)
    (h : ∀ A c w', Apd w w' base v (.slice A (l ++ m).length c) (l ++ m) → wpList Try.prog ops Q rest (a.put o.dst (.slice A (l ++ m).length c)) w') : wpList Try.prog ops Q (o :: rest) a w :=
  wpList_plain hgd fun K hK => by
    obtain ⟨v', w', hr, hA⟩ := run_append_bytes w base v l hown x B m hx hsz hbase
    obtain ⟨A, c, rfl, _⟩ := hA.own.form_
    unfold Oper.wp execOp
    simp only [ho, resolve, invoke, builtin, Sem.run_bind, Sem.run_pure, Result.andThen_ok, List.map_toArray, List.map_cons, List.map_nil, hs, hx0, hr, hty]
    exact hK _ _ (h A c w' hA)
end Go.Proofs.Ytaedhccmdbodlaa
