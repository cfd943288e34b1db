/- Parts of the proof. -/
import Derived.Test.YtiafeniflkikeaaGreatPm07
import Derived.SizedLaws
import Derived.Test.YtiafeniflkikeaaGreatPm04
import Derived.Laws.AppendOwnNone
import Derived.Test.YtiafeniflkikeaaGreatPm05
import Derived.Laws.BytesString
import Derived.Laws.Cells
namespace Go.Proofs.YtiafeniflkikeaaGreat
open Go.ChangeShapes Go.WideShapes Go.RowKit Go.Deep
set_option linter.unusedVariables false
theorem weights_all {H : Type} {P : Program} {e : TypeId} {d : DataW H} {k : Nat} : ∀ {l : List (DataW H)}, d ∈ l → k ∈ DataW.weights P e d → k ∈ DataW.weightsAll P e l
 | [], h, _ => by cases h
 | y :: l, h, hk => by
  unfold DataW.weightsAll
  rcases List.mem_cons.1 h with rfl | h
  ·exact List.mem_append_left _ hk
  ·exact List.mem_append_right _ (weights_all h hk)
theorem lv_openS {H : Type} {enc : TypeId × Value → H} {P : Program} {w : World} {base : Nat} {spare : Nat → Bool} {held : Bool} {α : Type} (K : El P α) (Q : DataW H → α → Prop) (inj : ∀ a b, K.enc a = K.enc b → a = b) (hce : P.cellsOf K.e = K.size)
  (dec : ∀ (fuel : Nat) (cs : List Value) (x : DataW H × List MemPlace), DataW.trod enc P w base spare held fuel K.e cs = some x → ∃ a, K.ok a ∧ Q x.1 a ∧ cs = K.enc a)
  {fuel : Nat} {a : Option Addr} {len cap : Nat} {x : DataW H × List MemPlace} (h : DataW.trod enc P w base spare held fuel K.s [.slice a len cap] = some x) :
  ∃ l : List α, l.length = len ∧ Lv K w w.heap.size (.slice a len cap) l ∧ ∀ y ∈ l, ∃ d, Q d y ∧ ∀ n ∈ DataW.weights P K.e d, n ∈ DataW.weights P K.s x.1 := by
 have h' := h
 obtain ⟨l, h1, h2⟩ := lv_open K hce (fun fuel cs x h => (dec fuel cs x h).imp fun a h => ⟨h.1, h.2.2⟩) h
 rcases open_slice K.under h' with ⟨h0, _⟩ | ⟨ad, len', cap', m, n, D, Pl, h0, _, hl, hm, hmm, hxe, hx⟩
 ·simp at h0
  obtain ⟨rfl, rfl, rfl⟩ := h0
  obtain rfl := List.eq_nil_of_length_eq_zero h1
  exact ⟨[], rfl, h2, by simp⟩
 ·simp at h0
  obtain ⟨rfl, rfl, rfl⟩ := h0
  have hlm : len ≤ m := by rw [hmm]; split <;> omega
  refine ⟨l, h1, h2, fun y hy => ?_⟩
  obtain ⟨i, hi⟩ := List.getElem?_of_mem hy
  have hil := (List.getElem?_eq_some_iff.1 hi).1
  obtain ⟨cs', c1, c2⟩ := hx i (by omega)
  obtain ⟨z, _, hz, rfl⟩ := dec _ _ _ c2
  rw [hce] at c1
  obtain ⟨_, _, hcell⟩ := World.cells?_some c1
  obtain ⟨b, off, y', e, _, _, hy', hc⟩ := h2.at_ hil
  injection e with e
  subst e
  rw [hi] at hy'
  obtain rfl := Option.some.inj hy'
  have he : K.enc y = K.enc z := by
   apply List.ext_getElem?
   intro j
   by_cases hj : j < K.size
   ·have h3 := hcell j hj
    simp only [add_addr] at h3
    have hjy : j < (K.enc y).length := by rw [K.len]; exact hj
    have h4 := hc j _ (List.getElem?_eq_getElem hjy)
    rw [← Nat.add_assoc] at h4
    rw [List.getElem?_eq_getElem hjy, ← h4, ← h3]
   ·rw [List.getElem?_eq_none (by rw [K.len]; omega), List.getElem?_eq_none (by rw [K.len]; omega)]
  rw [inj y z he]
  refine ⟨D i, hz, fun k hk => ?_⟩
  rw [hxe]
  unfold DataW.weights
  rw [K.under]
  refine List.mem_cons_of_mem _ (List.mem_append_left _ (weights_all ?_ hk))
  exact List.mem_map.2 ⟨i, List.mem_range.2 (by omega), rfl⟩
end Go.Proofs.YtiafeniflkikeaaGreat
namespace Go.Proofs.YtiafeniflkikeaaGreat
open Go.ChangeShapes Go.WideShapes Go.RowKit Go.Deep
set_option linter.unusedVariables false
set_option maxRecDepth 100000 in
theorem act_decS {H : Type} {enc : TypeId × Value → H} {w : World} {sp : Nat → Bool} {held : Bool} {fuel : Nat} {cs : List Value} {x : DataW H × List MemPlace} (h : DataW.trod enc Tryz.prog w 0 sp held fuel 42 cs = some x) :
  ∃ a, RawTOk a ∧ (∃ o, ActOf w w.heap.size a o ∧ ((∀ n ∈ DataW.weights Tryz.prog 42 x.1, n ≤ reachBytes) → o.body.length ≤ reachBytes)) ∧ cs = tK.enc a := by
 obtain ⟨xs, m, _, hxe, hl, hlen, hx⟩ := DataW.trod_struct Tryz.underlying42 h
 have hl12 : cs.length = 12 := hl.trans (by kernel_rfl)
 match xs, hlen, hxe with
 | [y0, y1, y2, y3, y4, y5], _, hxe =>
  have c1 : Tryz.prog.cellsOf 3 = 1 := by kernel_rfl
  have c2 : Tryz.prog.cellsOf 4 = 1 := by kernel_rfl
  have c3 : Tryz.prog.cellsOf 5 = 1 := by kernel_rfl
  have c4 : Tryz.prog.cellsOf 40 = 1 := by kernel_rfl
  have c5 : Tryz.prog.cellsOf 34 = 7 := by kernel_rfl
  have f0 : DataW.trod enc Tryz.prog w 0 sp held m 3 ((cs.drop 0).take (Tryz.prog.cellsOf 3)) = some y0 := hx 0 _ rfl
  have f1 : DataW.trod enc Tryz.prog w 0 sp held m 3 ((cs.drop 1).take (Tryz.prog.cellsOf 3)) = some y1 := hx 1 _ rfl
  have f2 : DataW.trod enc Tryz.prog w 0 sp held m 4 ((cs.drop 2).take (Tryz.prog.cellsOf 4)) = some y2 := hx 2 _ rfl
  have f3 : DataW.trod enc Tryz.prog w 0 sp held m 5 ((cs.drop 3).take (Tryz.prog.cellsOf 5)) = some y3 := hx 3 _ rfl
  have f4 : DataW.trod enc Tryz.prog w 0 sp held m 40 ((cs.drop 4).take (Tryz.prog.cellsOf 40)) = some y4 := hx 4 _ rfl
  have f5 : DataW.trod enc Tryz.prog w 0 sp held m 34 ((cs.drop 5).take (Tryz.prog.cellsOf 34)) = some y5 := hx 5 _ rfl
  rw [c1] at f0 f1
  rw [c2] at f2
  rw [c3] at f3
  rw [c4] at f4
  rw [c5] at f5
  obtain ⟨z0, g0, _, b0⟩ := DataW.trod_int Tryz.underlying3 f0
  obtain ⟨z1, g1, _, b1⟩ := DataW.trod_int Tryz.underlying3 f1
  obtain ⟨z3, g3, _, b3⟩ := DataW.trod_int Tryz.underlying5 f3
  have h2 := DataW.trod_bool Tryz.underlying4 f2
  obtain ⟨z2, g2, _⟩ := h2
  have e0 := one_cellR g0
  have e1 := one_cellR g1
  have e2 := one_cellR g2
  have e3 := one_cellR g3
  have w0 := bounds_i64 b0
  have w1 := bounds_i64 b1
  have w3 := bounds_u8 b3
  obtain ⟨n3, rfl⟩ := Int.eq_ofNat_of_zero_le w3.1
  obtain ⟨v4, h4⟩ : ∃ v4, cs[4]? = some v4 := ⟨_, List.getElem?_eq_getElem (by omega)⟩
  have t4 : (cs.drop 4).take 1 = [v4] := by
   rw [List.drop_eq_getElem_cons (by omega : 4 < cs.length)]
   rw [List.getElem?_eq_getElem (by omega)] at h4
   simp [Option.some.inj h4]
  rw [t4] at f4
  have h5 : ∃ A n c, v4 = .slice A n c := by
   rcases open_slice Tryz.underlying40 f4 with ⟨h0, _⟩ | ⟨ad, len', cap', m, n, D, Pl, h0, _⟩
   ·simp at h0; exact ⟨_, _, _, h0⟩
   ·simp at h0; exact ⟨_, _, _, h0⟩
  obtain ⟨A, n, c, rfl⟩ := h5
  obtain ⟨bs, hbn, hb⟩ := octs_in f4
  have hW : (∀ n ∈ DataW.weights Tryz.prog 42 x.1, n ≤ reachBytes) → bs.length ≤ reachBytes := fun hk => by
   rcases open_slice Tryz.underlying40 f4 with ⟨h0, _⟩ | ⟨ad, len', cap', m', n', D', Pl', h0, _, hl', hm', hmm', hy4, _⟩
   ·simp at h0
    rw [hbn, h0.2.1]
    exact Nat.zero_le _
   ·simp at h0
    obtain ⟨rfl, rfl, rfl⟩ := h0
    have hbt : Tryz.prog.bytesOf 5 = 1 := by kernel_rfl
    have hlm' : n ≤ m' := by rw [hmm']; split <;> omega
    have hs := hk ((n + (m' - n)) * Tryz.prog.bytesOf 5) (by
     rw [hxe]
     unfold DataW.weights
     rw [Tryz.underlying42]
     refine DataW.weights_mem_each (ts := [3, 3, 4, 5, 40, 34]) (ds := [y0.1, y1.1, y2.1, y3.1, y4.1, y5.1]) (j := 4) rfl rfl _ ?_
     rw [hy4]
     unfold DataW.weights
     rw [Tryz.underlying40]
     exact List.mem_cons.2 (.inl (by simp)))
    rw [hbt] at hs
    rw [hbn]
    omega
  obtain ⟨r, hr, hrf⟩ := rt_dec f5
  refine ⟨⟨z0, z1, z2, n3, A, n, c, r⟩, ⟨by show I64 z0; unfold I64; omega, by show I64 z1; unfold I64; omega, by show n3 < 256; omega, hrf⟩, ⟨⟨z0, z1, z2, n3, bs, r⟩, ⟨rfl, rfl, rfl, rfl, rfl, hb⟩, hW⟩, ?_⟩
  apply List.ext_getElem?
  intro i
  by_cases h7 : i < 5
  ·have hi : i = 0 ∨ i = 1 ∨ i = 2 ∨ i = 3 ∨ i = 4 := by omega
   rcases hi with rfl | rfl | rfl | rfl | rfl
   ·rw [e0]; rfl
   ·rw [e1]; rfl
   ·rw [e2]; rfl
   ·rw [e3]; rfl
   ·rw [h4]; rfl
  ·by_cases h12 : i < 12
   ·have e := congrArg (fun l => l[i - 5]?) hr
    change ((cs.drop 5).take 7)[i - 5]? = (rtC r).toList[i - 5]? at e
    rw [List.getElem?_take, if_pos (by omega), List.getElem?_drop, show 5 + (i - 5) = i by omega] at e
    rw [e]
    have hi : i = 5 ∨ i = 6 ∨ i = 7 ∨ i = 8 ∨ i = 9 ∨ i = 10 ∨ i = 11 := by omega
    rcases hi with rfl | rfl | rfl | rfl | rfl | rfl | rfl <;> rfl
   ·rw [List.getElem?_eq_none (by omega), List.getElem?_eq_none (by show 12 ≤ i; omega)]
theorem acts_inS {H : Type} {enc : TypeId × Value → H} {w : World} {sp : Nat → Bool} {held : Bool} {fuel : Nat} {a : Option Addr} {len cap : Nat} {x : DataW H × List MemPlace} (h : DataW.trod enc Tryz.prog w 0 sp held fuel 22 [.slice a len cap] = some x) :
  ∃ l : List Pa.Act, l.length = len ∧ Av w w.heap.size (.slice a len cap) l ∧ ((∀ n ∈ DataW.weights Tryz.prog 22 x.1, n ≤ reachBytes) → ∀ o ∈ l, o.body.length ≤ reachBytes) := by
 obtain ⟨us, h1, h2, h3⟩ := lv_openS tK (fun d x => ∃ o, ActOf w w.heap.size x o ∧ ((∀ n ∈ DataW.weights Tryz.prog 42 d, n ≤ reachBytes) → o.body.length ≤ reachBytes)) actL_inj (by kernel_rfl) (fun fuel cs x h => act_decS h) h
 haveI : Inhabited Pa.Act := ⟨⟨0, 0, false, 0, [], Rt.zero⟩⟩
 obtain ⟨f, hf⟩ := choose_lt (α := Pa.Act) (n := len) (p := fun i o => (∀ x, us[i]? = some x → ActOf w w.heap.size x o) ∧ ((∀ n ∈ DataW.weights Tryz.prog 22 x.1, n ≤ reachBytes) → o.body.length ≤ reachBytes)) (fun i hi => by
  obtain ⟨d, ⟨o, ho, hw⟩, hd⟩ := h3 us[i] (List.getElem_mem (by omega))
  exact ⟨o, fun x hx => by rw [List.getElem?_eq_getElem (by omega)] at hx; obtain rfl := Option.some.inj hx; exact ho, fun hk => hw fun n hn => hk n (hd n hn)⟩)
 refine ⟨(List.range len).map f, by simp, ⟨us, by simp [h1], h2, fun j x o hx ho => ?_⟩, fun hk o ho => ?_⟩
 rotate_left
 ·obtain ⟨i, hi, rfl⟩ := List.mem_map.1 ho
  exact (hf i (List.mem_range.1 hi)).2 hk
 have hj : j < len := by have := (List.getElem?_eq_some_iff.1 hx).1; omega
 rw [List.getElem?_map, List.getElem?_range hj] at ho
 obtain rfl := Option.some.inj ho
 exact (hf j hj).1 x hx
end Go.Proofs.YtiafeniflkikeaaGreat
namespace Go.Proofs.YtiafeniflkikeaaGreat
open Go.RowKit
set_option linter.unusedVariables false
def u8 (x : Nat) : Value := .int .u8 (x : Nat)
def OwnB (w : World) (base : Nat) (v : Value) (l : List Nat) : Prop := (∀ x ∈ l, x < 256) ∧ w.ownsRow base 5 1 v l.length (l.map u8)
def Bv (w : World) (B : Nat) (v : Value) (l : List Nat) : Prop := ∃ A c, v = .slice A l.length c ∧ l.length ≤ c ∧ c ≤ maxLen ∧ (A = none → c = 0) ∧ Bts w B A l
theorem info5 : (Tryz.prog.info? 5).map (fun i => (i.zero, i.size, i.bytes)) = some (some (.int .u8 0), 1, 1) := by kernel_rfl
section
variable {w w' : World} {base B : Nat} {v : Value} {l : List Nat}
theorem OwnB.lt_ (h : OwnB w base v l) : ∀ k, v.ownBlock = some k → base ≤ k ∧ k < w.heap.size := h.2.lt
theorem OwnB.form_ (h : OwnB w base v l) : Bv w w.heap.size v l := by
 obtain ⟨hb, hl, ⟨rfl, h0⟩ | ⟨g, cap, cur, rfl, hg, hh, hn, hc, hs, ht⟩⟩ := h
 ·obtain rfl : l = [] := List.eq_nil_of_length_eq_zero h0
  exact ⟨none, 0, rfl, by simp, by simp [maxLen], by simp, Bts.nil_ _ _ _⟩
 ·refine ⟨some ⟨g, 0, none⟩, cap, rfl, hn, hc, by simp, hb, fun _ => ⟨g, 0, rfl, ?_, fun j c hj => ?_⟩⟩
  ·rcases Nat.lt_or_ge g w.heap.size with h1 | h1
   ·exact h1
   ·rw [Array.getElem?_eq_none h1] at hh; cases hh
  ·rw [Nat.zero_add, cell_of_row w g j cur _ (0, 0) hh]
   have hj' : j < l.length := (List.getElem?_eq_some_iff.1 hj).1
   have h2 : (l.map u8)[j]? = some (u8 c) := by rw [List.getElem?_map, hj]; rfl
   rw [← ht, List.getElem?_take, if_pos (by omega)] at h2
   simpa [u8] using h2
theorem OwnB.alloc_ (h : OwnB w base v l) (o : Obj) : OwnB (w.alloc o) base v l := ⟨h.1, h.2.alloc o⟩
theorem OwnB.lit_ (w : World) {base : Nat} (hb : base ≤ w.heap.size) {c : Nat} {x : Int} (hx : x = (c : Nat)) (hc : c < 256) : OwnB (w.alloc (.cells #[.int .u8 x] 5)) base (.slice (some ⟨w.heap.size, 0, none⟩) 1 1) [c] := by
 subst hx
 exact ⟨by simpa using hc, by simpa [u8] using World.ownsRow_lit (base := base) (e := 5) (size := 1) w #[.int .u8 (c : Nat)] 1 hb (by simp [maxLen]) (by simp)⟩
theorem Bv.one_ (w : World) {c : Nat} {x : Int} (hx : x = (c : Nat)) (hc : c < 256) : Bv (w.alloc (.cells #[.int .u8 x] 5)) (w.heap.size + 1) (.slice (some ⟨w.heap.size, 0, none⟩) 1 1) [c] := by
 subst hx
 have h := (OwnB.lit_ w (Nat.le_refl _) rfl hc).form_
 simpa using h
end
theorem or128 (q : Nat) : bits BinOp.or IntKind.u8 ((q : Int) % 256) 128 = ((q % 128 + 128 : Nat) : Int) := by
 have h := (bits_nat .u8 8 (by decide) wraps_u8 (q % 256) 128 (by omega) (by decide)).2
 have hd : ∀ a : Nat, a < 256 → (a ||| 128) = a % 128 + 128 := by decide +kernel
 rw [hd _ (by omega)] at h
 have e : (q : Int) % 256 = ((q % 256 : Nat) : Int) := by simp
 rw [e]
 refine h.trans ?_
 congr 2
 omega
theorem and127 (c : Nat) (hc : c < 256) : bits BinOp.and IntKind.u8 (c : Int) 127 = ((c % 128 : Nat) : Int) := by
 have h := bits_mask .u8 8 (by decide) wraps_u8 7 (by decide) (c : Int) (by omega) (by omega)
 refine h.trans ?_
 simp
theorem wraps_u64 (n : Int) (h₀ : 0 ≤ n) (h₁ : n < 2 ^ 64) : IntKind.u64.wrap n = n := by rw [IntKind.wrap_u64]; omega
theorem or_step (k X c : Nat) (hk : k ≤ 9) (hX : X < 128 ^ k) (hc : c < 256) (h9 : 8 < k → c % 128 < 2) :
  bits BinOp.or IntKind.u64 (X : Int) (IntKind.u64.wrap (IntKind.u64.wrap (bits BinOp.and IntKind.u8 (c : Int) 127) * 2 ^ (7 * k))) = ((X + c % 128 * 128 ^ k : Nat) : Int) := by
 have e : (128 : Nat) ^ k = 2 ^ (7 * k) := by rw [Nat.pow_mul]
 rw [e] at hX ⊢
 have hlt : c % 128 * 2 ^ (7 * k) < 2 ^ 64 := by
  by_cases h8 : 8 < k
  ·obtain rfl : k = 9 := by omega
   have := h9 h8
   omega
  ·have h1 : c % 128 * 2 ^ (7 * k) < 128 * 2 ^ (7 * k) := Nat.mul_lt_mul_of_pos_right (by omega) (Nat.two_pow_pos _)
   have h2 : (2 : Nat) ^ (7 * k) ≤ 2 ^ 56 := Nat.pow_le_pow_right (by decide) (by omega)
   omega
 have hX64 : X < 2 ^ 64 := by
  have h2 : (2 : Nat) ^ (7 * k) ≤ 2 ^ 63 := Nat.pow_le_pow_right (by decide) (by omega)
  omega
 rw [and127 c hc, wraps_u64 ((c % 128 : Nat) : Int) (by omega) (by omega)]
 have e2 : ((c % 128 : Nat) : Int) * 2 ^ (7 * k) = ((c % 128 * 2 ^ (7 * k) : Nat) : Int) := by simp
 rw [e2, wraps_u64 ((c % 128 * 2 ^ (7 * k) : Nat) : Int) (by omega) (by exact_mod_cast hlt), (bits_nat .u64 64 (by decide) wraps_u64 X _ hX64 hlt).2, Nat.or_comm, Nat.mul_comm, ← Nat.two_pow_add_eq_or_of_lt hX, Nat.mul_comm, Nat.add_comm]
structure Apd (w w' : World) (base : Nat) (v v' : Value) (l : List Nat) : Prop where
 own : OwnB w' base v' l
 grown : w.grownBy w' v.ownBlock
set_option maxRecDepth 100000 in
theorem run_append_bytes (w : World) (base : Nat) (v : Value) (l : List Nat) (hown : OwnB w base v l) (x : Value) (B : Nat) (m : List Nat) (hx : Bv w B x m) (hsz : l.length + m.length ≤ 140737488355328) (hbase : base ≤ w.heap.size) :
  ∃ v' w', (Builtin.append_ #[40, 40] 40 #[v, x]).run Tryz.prog w = .ok v' w' ∧ Apd w w' base v v' (l ++ m) := by
 obtain ⟨i0, hi, hz0, hz1, hz2⟩ := info_parts info5
 obtain ⟨A, c, rfl, hmc, hcm, hnil, hm⟩ := hx
 cases A with
 | none =>
  obtain rfl := hnil rfl
  obtain rfl : m = [] := List.eq_nil_of_length_eq_zero (by omega)
  refine ⟨v, w, run_append_owned_none w base _ _ _ i0 1 Tryz.underlying40 hi v l.length _ hown.2, by simpa using hown, ⟨rfl, rfl, rfl, Nat.le_refl _, fun _ _ _ => rfl⟩⟩
 | some ad =>
  have hnews : ∀ j u, (m.map u8)[j]? = some u → w.cell? (ad.add j) = some u := by
   intro j u hu
   rw [List.getElem?_map] at hu
   cases hj : m[j]? with
   | none => rw [hj] at hu; cases hu
   | some c =>
    rw [hj] at hu
    have hj' : j < m.length := (List.getElem?_eq_some_iff.1 hj).1
    obtain ⟨b, off, e, _, hc⟩ := hm.2 (by omega)
    injection e with e
    subst e
    have := hc j c hj
    have ea : (⟨b, off, none⟩ : Addr).add j = ⟨b, off + j, none⟩ := by unfold Addr.add; split <;> simp_all
    rw [ea, this]
    simpa [u8] using hu
  obtain ⟨v', w', hr, h1, h2, h3⟩ := run_append_own w base 40 40 5 i0 (.int .u8 0) 1 1 Tryz.underlying40 hi hz0 hz1 hz2 rfl (by decide) v l.length (l.map u8) hown.2 ad m.length c (m.map u8) (by simp) hnews
   (by intro u hu; obtain ⟨_, _, rfl⟩ := List.mem_map.1 hu; rfl) (by simp only [maxLen]; omega) (by omega) hbase
  refine ⟨v', w', hr, ⟨⟨?_, by simpa using h1⟩, h2⟩⟩
  intro x hx
  rcases List.mem_append.1 hx with h | h
  ·exact hown.1 x h
  ·exact hm.1 x h
theorem wpList_append_bytes (w : World) {ops : Array Oper} {rest : List Oper} {o : Oper} {a : Act} {Q : Exit → Act → World → Prop} (hgd : o.guard = none) (s t : Operand)
  (ho : o.op = .call { callee := .builtin .append, args := #[s, t], argTypes := #[40, 40] }) (hty : o.type = 40)
  (base : Nat) (v : Value) (hs : a.eval s = v) (l : List Nat) (hown : OwnB w base v l) (x : Value) (hx0 : a.eval t = x) (B : Nat) (m : List Nat) (hx : Bv w B x m) (hsz : l.length + m.length ≤ 140737488355328) (hbase : base ≤ w.heap.size)
  (h : ∀ A c w', Apd w w' base v (.slice A (l ++ m).length c) (l ++ m) → wpList Tryz.prog ops Q rest (a.put o.dst (.slice A (l ++ m).length c)) w') : wpList Tryz.prog ops Q (o :: rest) a w :=
 wpList_plain hgd fun K hK => by
  obtain ⟨v', w', hr, hA⟩ := run_append_bytes w base v l hown x B m hx hsz hbase
  obtain ⟨A, c, rfl, _⟩ := hA.own.form_
  unfold Oper.wp execOp
  simp only [ho, resolve, invoke, builtin, Sem.run_bind, Sem.run_pure, Result.andThen_ok, List.map_toArray, List.map_cons, List.map_nil, hs, hx0, hr, hty]
  exact hK _ _ (h A c w' hA)
end Go.Proofs.YtiafeniflkikeaaGreat
namespace Go.Proofs.YtiafeniflkikeaaGreat
open Go.RowKit
set_option linter.unusedVariables false
def bstr (l : List Nat) : ByteArray := ⟨(l.map UInt8.ofNat).toArray⟩
theorem foldl_push (l : List Nat) : ∀ r : ByteArray, (l.map Int.ofNat).foldl (fun r n => r.push (UInt8.ofNat n.toNat)) r = ⟨r.data ++ (l.map UInt8.ofNat).toArray⟩ := by
 induction l with
 | nil => intro r; simp
 | cons x l ih =>
  intro r
  rw [List.map_cons, List.foldl_cons, ih]
  simp [ByteArray.push]
theorem bstr_inj {l m : List Nat} (hl : ∀ x ∈ l, x < 256) (hm : ∀ x ∈ m, x < 256) (h : bstr l = bstr m) : l = m := by
 have h1 : (l.map UInt8.ofNat).toArray = (m.map UInt8.ofNat).toArray := congrArg ByteArray.data h
 have h2 : l.map UInt8.ofNat = m.map UInt8.ofNat := by simpa using h1
 clear h h1
 induction l generalizing m with
 | nil => cases m with
  | nil => rfl
  | cons => cases h2
 | cons x l ih => cases m with
  | nil => cases h2
  | cons y m =>
   rw [List.map_cons, List.map_cons] at h2
   injection h2 with h3 h4
   have hx := hl x (by simp)
   have hy := hm y (by simp)
   have e : x = y := by
    have := congrArg UInt8.toNat h3
    simp only [UInt8.toNat_ofNat'] at this
    omega
   rw [e, ih (fun z hz => hl z (by simp [hz])) (fun z hz => hm z (by simp [hz])) h4]
theorem bstr_toList (l : List Nat) : (bstr l).toList = l.map UInt8.ofNat := by rw [ByteArray.toList_eq]; simp [bstr]
theorem bstr_eq {l m : List Nat} (hl : ∀ x ∈ l, x < 256) (hm : ∀ x ∈ m, x < 256) : ((bstr l).toList == m.map UInt8.ofNat) = decide (l = m) := by
 rw [bstr_toList, Bool.eq_iff_iff, beq_iff_eq, decide_eq_true_eq]
 constructor
 ·intro h
  refine bstr_inj hl hm ?_
  unfold bstr
  rw [h]
 ·intro h; rw [h]
theorem conv_str {w : World} {B n c : Nat} {A : Option Addr} {l : List Nat} (hv : Lv yK w B (.slice A n c) l) (hp : 0 < l.length) :
  (convert 40 9 (.slice A n c)).run Tryz.prog w = .ok (.string (bstr l)) w := by
 obtain ⟨A', c', e, -, -, -, -, h5⟩ := hv
 obtain ⟨b, off, hA, -, hc⟩ := h5 hp
 simp only [Value.slice.injEq] at e
 obtain ⟨rfl, rfl, rfl⟩ := e
 subst hA
 have h0 := run_convert_bytes_string (P := Tryz.prog) w 40 9 5 (some ⟨b, off, none⟩) l.length c Tryz.underlying40 Tryz.underlying5 Tryz.underlying9
 rw [h0]
 clear h0
 have hf : ∀ l : List Nat, yK.flat l = (l.map Int.ofNat).map (Value.int .u8) := by
  intro l
  show l.flatMap (fun x : Nat => [Value.int .u8 (x : Nat)]) = _
  induction l with
  | nil => rfl
  | cons x r ih => rw [List.flatMap_cons, ih]; rfl
 have hlen : ((l.map Int.ofNat).map (Value.int .u8)).length = l.length := by simp
 rw [hf] at hc
 have hload := run_loadCells_list (P := Tryz.prog) (w := w) ⟨b, off, none⟩ ((l.map Int.ofNat).map (Value.int .u8)) (fun j v hj => by have := hc j v hj; by_cases h0 : j = 0 <;> simp_all [Addr.add])
 rw [hlen] at hload
 rw [run_bytesToString w _ _ _ (l.map Int.ofNat) hload, foldl_push]
 simp only [bstr, ByteArray.empty, ByteArray.emptyWithCapacity]
 congr 3
 exact Array.empty_append
end Go.Proofs.YtiafeniflkikeaaGreat
