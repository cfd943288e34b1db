/-
  RowsOwn: Rows of bytes that the call collects in a slice of its own, whose room was made ahead; leb.PutList.
  PutListI: leb.PutList answers the counted list, in new memory without spare room.
  WvLv: Numbers in two words: Wv and Lv wK; full bytes of a call's own as a list.
  PkProC: pack: Put.
-/
import Derived.Test.YtkialijipcbgkaaPk27
import Derived.Test.YtkialijipcbgkaaPk28
import Derived.Test.YtkialijipcbgkaaPk24
import Derived.Test.YtkialijipcbgkaaPk26
import Derived.Test.YtkialijipcbgkaaPk21
import Derived.Test.YtkialijipcbgkaaPk25
namespace Go.Proofs.Ytkialijipcbgkaa
open Go.RowKit
set_option linter.unusedVariables false

set_option maxRecDepth 100000 in
theorem info23 : (Try.prog.info? 28).map (fun i => (i.zero, i.size, i.bytes)) = some (some (.slice none 0 0), 1, 24) := by kernel_rfl

/-- The slice in block g with room for N rows holds the rows us, of which each holds the bytes in ls, and lies in a block above g. -/
def RowsOwn (w : World) (g N : Nat) (us : List Value) (ls : List (List Nat)) : Prop :=
  us.length = ls.length ∧ w.ownsRow g 28 1 (.slice (some ⟨g, 0, none⟩) us.length N) us.length us ∧ ∀ (j : Nat) (u : Value) (l : List Nat), us[j]? = some u → ls[j]? = some l → Bv w w.heap.size u l ∧ ∀ k, u.ownBlock = some k → g < k

set_option maxRecDepth 100000 in
theorem Bv.kept_ {w w' : World} {B : Nat} {v : Value} {l : List Nat} {row : Option Nat} (h : Bv w B v l) (hg : w.grownBy w' row) (hB : B ≤ w.heap.size) (hne : ∀ k, v.ownBlock = some k → row ≠ some k) : Bv w' B v l := by
  obtain ⟨A, c, rfl, h1, h2, h3, h4, h5⟩ := h
  refine ⟨A, c, rfl, h1, h2, h3, h4, fun hp => ?_⟩
  obtain ⟨b, off, rfl, hb, hc⟩ := h5 hp
  refine ⟨b, off, rfl, hb, fun j x hj => ?_⟩
  refine (World.cell?_of_block (hg.block b (by omega) (fun e => hne b rfl e.symm))).trans (hc j x hj)

section
variable {w w' : World} {g N : Nat} {us : List Value} {ls : List (List Nat)}
set_option maxRecDepth 100000 in
theorem RowsOwn.lt_ (h : RowsOwn w g N us ls) : g < w.heap.size := (h.2.1.lt g rfl).2
set_option maxRecDepth 100000 in
theorem RowsOwn.below_ (h : RowsOwn w g N us ls) (hb : Below w.heap.size w w') : RowsOwn w' g N us ls := by
  have hlt := h.lt_
  refine ⟨h.1, ?_, fun j u l hu hl => ?_⟩
  · refine ⟨h.2.1.1, ?_⟩
    rcases h.2.1.2 with hn | ⟨g', cap, cur, e, hg, hh, hr⟩
    · exact .inl hn
    · refine .inr ⟨g', cap, cur, e, hg, ?_, hr⟩
      have : g' < w.heap.size := (Array.getElem?_eq_some_iff.1 hh).1
      rw [hb.block g' this]
      exact hh
  · obtain ⟨h1, h2⟩ := h.2.2 j u l hu hl
    exact ⟨(h1.below_ hb (Nat.le_refl _)).mono_ hb.size, h2⟩
set_option maxRecDepth 100000 in
theorem RowsOwn.alloc_ (h : RowsOwn w g N us ls) (o : Obj) : RowsOwn (w.alloc o) g N us ls := h.below_ ((Below.refl _ _).alloc (Nat.le_refl _) o)
set_option maxRecDepth 100000 in
theorem RowsOwn.push_ (h : RowsOwn w g N us ls) {u : Value} {x : List Nat} (hu : Bv w w.heap.size u x) (hk : ∀ k, u.ownBlock = some k → g < k) (ho : w'.ownsRow g 28 1 (.slice (some ⟨g, 0, none⟩) (us.length + 1) N) (us.length + 1) (us ++ [u])) (hg : w.grownBy w' (some g)) :
    RowsOwn w' g N (us ++ [u]) (ls ++ [x]) := by
  refine ⟨by simp [h.1], by simpa using ho, fun j u' l' hu' hl' => ?_⟩
  have keep : ∀ {v : Value} {y : List Nat}, Bv w w.heap.size v y → (∀ k, v.ownBlock = some k → g < k) → Bv w' w'.heap.size v y := fun hv hn =>
    (hv.kept_ hg (Nat.le_refl _) (fun k hk e => by have := hn k hk; injection e with e; omega)).mono_ hg.size
  by_cases hj : j < us.length
  · rw [List.getElem?_append_left hj] at hu'
    rw [List.getElem?_append_left (by rw [← h.1]; exact hj)] at hl'
    obtain ⟨h1, h2⟩ := h.2.2 j u' l' hu' hl'
    exact ⟨keep h1 h2, h2⟩
  · have hje : j = us.length := by
      have := (List.getElem?_eq_some_iff.1 hu').1
      simp at this
      omega
    subst hje
    rw [List.getElem?_append_right (Nat.le_refl _)] at hu'
    rw [h.1, List.getElem?_append_right (Nat.le_refl _)] at hl'
    simp at hu' hl'
    subst hu' hl'
    exact ⟨keep hu hk, hk⟩
set_option maxRecDepth 100000 in
theorem RowsOwn.rws_ (h : RowsOwn w g N us ls) : Rws w w.heap.size (.slice (some ⟨g, 0, none⟩) ls.length N) ls := by
  have hown := h.2.1
  rcases h.2.1.2 with ⟨e, _⟩ | ⟨g', cap, cur, e, _, hh, hn, hc, _, _⟩
  · cases e
  · injection e with e1 e2 e3
    subst e3
    refine ⟨g, 0, N, rfl, h.lt_, by rw [← h.1]; exact hn, hc, fun j l hl => ?_⟩
    have hj : j < us.length := by rw [h.1]; exact (List.getElem?_eq_some_iff.1 hl).1
    obtain ⟨h1, h2⟩ := h.2.2 j _ l (List.getElem?_eq_getElem hj) hl
    refine ⟨us[j], ?_, h1⟩
    rw [Nat.zero_add, hown.cellAt j (by omega), List.getElem?_eq_getElem hj]
end

set_option maxRecDepth 100000 in
/-- What one row more does. -/
theorem wpList_push (w : World) {ops : Array Oper} {rest : List Oper} {o : Oper} {a : Act} {Q : Exit → Act → World → Prop} (hgd : o.guard = none) (s t : Operand)
    (ho : o.op = .call { callee := .builtin .append, args := #[s, t], argTypes := #[79, 79] }) (hty : o.type = 79)
    (g N : Nat) (us : List Value) (ls : List (List Nat)) (A : Option Addr) (n c : Nat) (x : List Nat) (hs : a.eval s = .slice (some ⟨g, 0, none⟩) us.length N)
    (hx : a.eval t = .slice (some ⟨w.heap.size, 0, none⟩) 1 1) (h : RowsOwn w g N us ls) (hu : Bv w w.heap.size (.slice A n c) x) (hk : ∀ k, (Value.slice A n c).ownBlock = some k → g < k) (hroom : us.length + 1 ≤ N)
    (hK : ∀ w', RowsOwn w' g N (us ++ [.slice A n c]) (ls ++ [x]) → (w.alloc (.cells #[.slice A n c] 28)).grownBy w' (some g) → wpList Try.prog ops Q rest (a.put o.dst (.slice (some ⟨g, 0, none⟩) (us.length + 1) N)) w') :
    wpList Try.prog ops Q (o :: rest) a (w.alloc (.cells #[.slice A n c] 28)) := by
  obtain ⟨i0, hi, hz0, hz1, hz2⟩ := info_parts info23
  have h1 := h.alloc_ (.cells #[.slice A n c] 28)
  refine wpList_append_fits_any _ hgd s t 79 ho g 28 i0 1 Try.underlying79 hi hz1 g us.length N us hs h1.2.1 (some ⟨w.heap.size, 0, none⟩) 1 1 [.slice A n c] hx rfl (by intro e; cases e) ?_ ?_ hroom ?_
  · intro ad e j u hj
    injection e with e
    subst e
    match j, hj with
    | 0, hj =>
      simp at hj
      subst hj
      show (w.alloc _).cell? ⟨w.heap.size, 0, none⟩ = _
      rw [cell_of_row _ w.heap.size 0 #[.slice A n c] 28 (0, 0) (heap_alloc_new w _)]; rfl
    | j + 1, hj => simp at hj
  · intro u hu'
    simp at hu'
    subst hu'
    rfl
  · intro w' ho' hg'
    exact hK w' (h1.push_ ((hu.alloc_ (Nat.le_refl _) _).mono_ (by simp)) hk ho' hg') hg'
end Go.Proofs.Ytkialijipcbgkaa
namespace Go.Proofs.Ytkialijipcbgkaa
open Go.RowKit
set_option linter.unusedVariables false

set_option maxRecDepth 100000 in
theorem cat_puts (l : List Nat) : cat (Mt.put l.length :: l.map Mt.put) = putList l := by simp [cat, putList, puts]
set_option maxRecDepth 100000 in
theorem map_snoc {l : List Nat} {k c : Nat} {r : List Nat} (h : l.drop k = c :: r) : (l.take (k + 1)).map Mt.put = (l.take k).map Mt.put ++ [Mt.put c] := by rw [take_one h]; simp
set_option maxRecDepth 100000 in
theorem putList_len (l : List Nat) : (putList l).length ≤ 10 + 10 * l.length := by
  have h1 := puts_len l
  have h2 := Mt.put_len_le l.length
  unfold putList
  rw [List.length_append]
  omega

set_option maxHeartbeats 2000000 in
set_option maxRecDepth 100000 in
theorem putList_any (v : Value) (l : List Nat) (B : Nat) (w : World) (hB : B ≤ w.heap.size) (h : Wv w B v l) (hsz : l.length ≤ 2097152) :
    Calls Try.prog 53 #[v] w (IsFull (putList l) w) := by
  have hb : Mt.B64 l.length := by unfold Mt.B64; omega
  have HB0 := Lib.hid hb
  have hpl := putList_len l
  have HW := Lib.hid (wrap_len l.length (by omega))
  have H0 := Lib.hid h
  obtain ⟨A, c, rfl, hc1, hc2, hc3, _⟩ := h
  have hl : l.length ≤ 140737488355328 := by omega
  obtain ⟨i0, hi, hz0, hz1, hz2⟩ := info_parts info23
  have hby : i0.bytes * (l.length + 1) ≤ 281474976710656 := by rw [hz2]; omega
  have hml : l.length + 1 ≤ maxLen := by simp only [maxLen]; omega
  clear hb
  go_enter Try.func53, Try.ntmps53
  go_wp2_with (at_make; go_must (refine wpList_make_own _ rfl _ _ 79 rfl w.heap.size 28 i0 (.slice none 0 0) 1 Try.underlying79 hi hz0 hz1 .i64 .i64 _ (l.length + 1) rfl rfl (by simp) hby hml (Nat.le_refl _) ?_; intro w1 hown hgrow))
  have hr1 : RowsOwn w1 w.heap.size (l.length + 1) [] [] := ⟨rfl, hown, fun j u l hu => by simp at hu⟩
  have hb1 : Below w.heap.size w w1 := (Below.refl _ _).grown hgrow (Nat.le_refl _) (by intro k hk; cases hk)
  have HP := Lib.hid (put_any l.length HB0.out w1)
  have HR := Lib.hid hr1
  have HB := Lib.hid hb1
  clear hown hgrow hi hz0 hz1 hz2 hby hml hr1 hb1
  try rw [HW.out]
  ((with_reducible refine HP.out.mono ?_); rintro e w2 ⟨A1, c1, rfl, ho, hb2⟩)
  have HR2 := Lib.hid (HR.out.below_ hb2)
  have HB2 := Lib.hid (HB.out.trans (hb2.mono HB.out.size))
  have HU := Lib.hid ho.form_
  have HK : Hid (∀ k, (Value.slice A1 (Mt.put l.length).length c1).ownBlock = some k → w.heap.size < k) := fun k hk => by have := (ho.lt_ k hk).1; have := HR.out.lt_; omega
  clear HR HB ho hb2 HP
  go_wp2_with (at_builtin; go_must (refine wpList_push w2 rfl _ _ rfl rfl w.heap.size (l.length + 1) [] [] A1 _ c1 (Mt.put l.length) rfl rfl HR2.out HU.out HK.out (by simp) ?_; intro w3 hr3 hg3))
  have hz2 : w.heap.size ≤ w2.heap.size := HB2.out.size
  have hb3 : Below w.heap.size w w3 := (HB2.out.alloc hz2 _).grown hg3 (by simp; omega) (by intro k hk; injection hk with hk; omega)
  have HR3 := Lib.hid hr3
  have HB3 := Lib.hid hb3
  clear hr3 hb3 hg3 HR2 HB2 HU HK hz2
  go_loopw [3, 19] (fun u i wr => ∃ (k : Nat) (us : List Value) (ls : List (List Nat)), k ≤ l.length ∧ i = .int .i64 k ∧ u = .slice (some ⟨w.heap.size, 0, none⟩) us.length (l.length + 1) ∧ Hid (us.length = k + 1) ∧ Hid (RowsOwn wr w.heap.size (l.length + 1) us ls) ∧ Hid (ls = Mt.put l.length :: (l.take k).map Mt.put) ∧ Below w.heap.size w wr) (fun _ i _ => l.length - (intOf i).toNat)
  case atStart => exact ⟨0, [.slice A1 (Mt.put l.length).length c1], [Mt.put l.length], by omega, rfl, rfl, rfl, HR3.out, by simp [Hid], HB3.out⟩
  case round =>
    obtain ⟨k, us, ls, hk, rfl, rfl, HL, HR, HE, hbr⟩ := hrel
    have hbase : w.heap.size ≤ wr.heap.size := hbr.size
    clear HB3 HR3
    by_cases hlt : k < l.length
    · obtain ⟨A', c', e', _, _, _, hts⟩ := H0.out.below_ hbr hB
      injection e' with e1 e2 e3
      subst e1
      obtain ⟨b, off, x, rfl, hb, hx, hd, hcell⟩ := hts.at_ hlt
      have HE2 : Hid (ls ++ [Mt.put x] = Mt.put l.length :: (l.take (k + 1)).map Mt.put) := by
        unfold Hid; rw [map_snoc hd, HE.out]; rfl
      have HX := Lib.hid (put_any x hx wr)
      clear hts hd HE hx e3
      go_wp2_with fail
      ((with_reducible refine HX.out.mono ?_); rintro e w4 ⟨A2, c2, rfl, ho4, hb4⟩)
      have HR4 := Lib.hid (HR.out.below_ hb4)
      have HU := Lib.hid ho4.form_
      have HK : Hid (∀ k, (Value.slice A2 (Mt.put x).length c2).ownBlock = some k → w.heap.size < k) := fun k hk => by have := (ho4.lt_ k hk).1; have := HR.out.lt_; omega
      have hbr4 := hbr.trans (hb4.mono hbase)
      have hbase4 : w.heap.size ≤ w4.heap.size := hbr4.size
      have hroom : us.length + 1 ≤ l.length + 1 := by have := HL.out; omega
      clear ho4 hb4 HR HX hbr
      go_wp2_with (at_builtin; go_must (refine wpList_push w4 rfl _ _ rfl rfl w.heap.size (l.length + 1) us ls A2 _ c2 (Mt.put x) rfl rfl HR4.out HU.out HK.out hroom ?_; intro w5 hr5 hg5))
      go_roundw
      case rel => exact ⟨k + 1, us ++ [Value.slice A2 (Mt.put x).length c2], ls ++ [Mt.put x], by omega, by go_num, by simp, by unfold Hid; rw [List.length_append, HL.out]; rfl, (by exact hr5), HE2, (hbr4.alloc hbase4 _).grown hg5 (by simp; omega) (by intro k hk; injection hk with hk; omega)⟩
      case measure => simp [intOf]; omega
    · have hkk : k = l.length := by omega
      have hls : ls = Mt.put l.length :: l.map Mt.put := by rw [HE.out, hkk, List.take_length]
      have hul : us.length = ls.length := HR.out.1
      have hcat : cat ls = putList l := by rw [hls]; exact cat_puts l
      have HJ := Lib.hid (join_any _ ls wr.heap.size wr (Nat.le_refl _) HR.out.rws_ (by rw [hcat]; omega))
      rw [hcat, ← hul] at HJ
      clear HE HR hls hul hcat
      go_wp2_with fail
      ((with_reducible refine HJ.out.mono ?_); rintro e w6 ⟨g, rfl, ho6, hb6⟩)
      have hO := ho6.mono_ hbase
      have hB6 := hbr.trans (hb6.mono hbase)
      clear HJ ho6 hb6
      go_wp2
      go_ret
      exact ⟨g, rfl, hO, hB6⟩
end Go.Proofs.Ytkialijipcbgkaa
namespace Go.Proofs.Ytkialijipcbgkaa
open Go.RowKit
set_option linter.unusedVariables false

theorem words_flat (l : List Nat) : wK.flat l = l.map u64v := by
  show l.flatMap (fun x => [u64v x]) = l.map u64v
  induction l with
  | nil => rfl
  | cons x r ih => rw [List.flatMap_cons, ih]; rfl
theorem Lv.wv_ {w : World} {B : Nat} {v : Value} {l : List Nat} (h : Lv wK w B v l) : Wv w B v l := by
  obtain ⟨A, c, e, h1, h2, h3, h4, h5⟩ := h
  refine ⟨A, c, e, h1, h2, h3, fun x hx => h4 x hx, fun hp => ?_⟩
  obtain ⟨b, off, hA, hb, hc⟩ := h5 hp
  refine ⟨b, off, hA, hb, fun j x hj => hc j (u64v x) ?_⟩
  rw [words_flat l, List.getElem?_map, hj]
  rfl
theorem OwnB.full_l {w : World} {base g : Nat} {l : List Nat} (h : OwnB w base (.slice (some ⟨g, 0, none⟩) l.length l.length) l) : OwnL yK w base (.slice (some ⟨g, 0, none⟩) l.length l.length) l := by
  obtain ⟨hb, hl, ⟨e, h0⟩ | ⟨g', cap, cur, e, hg, hh, hn, hc, hs, ht⟩⟩ := h
  · cases e
  · simp only [Value.slice.injEq, Option.some.injEq, Addr.mk.injEq] at e
    obtain ⟨⟨rfl, _⟩, _, rfl⟩ := e
    refine ⟨hb, .inr ⟨g, [], rfl, hg, by simp, hc, ?_⟩⟩
    rw [List.append_nil, octs_flat, ← ht, hh]
    congr 2
    rw [List.take_of_length_le (by simp; omega)]
end Go.Proofs.Ytkialijipcbgkaa
namespace Go.Proofs.Ytkialijipcbgkaa
open Go.RowKit
set_option linter.unusedVariables false
set_option maxHeartbeats 2000000 in
set_option maxRecDepth 100000 in
theorem ppput_any (l : List Int) (v : Value) (B : Nat) (w : World) (h : Lv iK w B v l) (hB : B ≤ w.heap.size) : Calls Try.prog 30 #[v] w (IsLE yK (Pk.putE l) w) := by
  have HD := Lib.hid (pdif_any v l B w hB h)
  rcases Pk.dif_cases l with ⟨e, he2, he3, hd, hp⟩ | ⟨hlen, hd, hp⟩
  · have HE := Lib.hid hp
    rw [hd] at HD
    have hq : ((e : Int) != 0) = true := by rw [bne_iff_ne]; omega
    clear hd hp h
    go_enter Try.func30, Try.ntmps30
    go_wp2_with fail
    ((with_reducible refine HD.out.mono ?_); rintro e' w1 ⟨A1, c1, rfl, ho, hb1⟩)
    clear HD ho
    go_wp2
    go_ret2
    exact IsLE.none_b HE.out rfl hb1
  · have HE := Lib.hid hp
    have HL := Lib.hid (Pk.dif_len l 0)
    rw [hd] at HD
    obtain ⟨d, hd'⟩ : ∃ d, Pk.dif 0 l = d := ⟨_, rfl⟩
    rw [hd'] at HD HE HL
    clear hd hd' hp h
    go_enter Try.func30, Try.ntmps30
    go_wp2_with fail
    ((with_reducible refine HD.out.mono ?_); rintro e' w1 ⟨A1, c1, rfl, ho, hb1⟩)
    have HP := Lib.hid (putList_any _ d w1.heap.size w1 (Nat.le_refl _) ho.form_.wv_ (by have := HL.out; omega))
    have HB1 := Lib.hid hb1
    clear HD ho hb1 HL
    go_wp2_with fail
    ((with_reducible refine HP.out.mono ?_); rintro e' w2 ⟨g, rfl, ho2, hb2⟩)
    have HB2 := Lib.hid (HB1.out.trans (hb2.mono HB1.out.size))
    have HO2 := Lib.hid (ho2.full_l.mono_ HB1.out.size)
    clear HP ho2 hb2 HB1
    go_wp2
    go_ret2
    exact IsLE.of HE.out rfl rfl HO2.out HB2.out
end Go.Proofs.Ytkialijipcbgkaa
