/- Parts of the proof. -/
import Derived.Test.YtiafeniflkikeaaGreatPm26
import Derived.Test.YtiafeniflkikeaaGreatPm03
import Derived.Test.YtiafeniflkikeaaGreatPm13
import Derived.Test.YtiafeniflkikeaaGreatPm24
import Derived.Test.YtiafeniflkikeaaGreatPm12
import Derived.Deep.RegionHeld3
import Derived.Test.YtiafeniflkikeaaGreatPm27
namespace Go.Proofs.YtiafeniflkikeaaGreat
open Go.RowKit
set_option linter.unusedVariables false
set_option maxHeartbeats 4000000 in
set_option maxRecDepth 100000 in
theorem psynced_any {who : Who} {i : Nat} {x : RawX} {f : Sf.File} (w : World) (hX : HasX w who i x f) :
  Calls Tryz.prog 87 #[xV x] w (fun e w' => ∃ u : Sl, e = .returned (xV ⟨u, ⟨none, 0, 0⟩, x.now⟩) ∧ OwnL yK w' 0 (slV u) (Sf.now f) ∧
   Turned (fun k => (slV x.sure).ownBlock = some k) w w' ∧ Moved w (slV x.sure) (slV u)) := by
 obtain ⟨rc, hrl, hrow, hacts⟩ := hX.row
 have hsu := hX.sure
 have hsw := hX.sureW
 have hrw := hX.rowW
 have hok := hX.ok
 clear hX
 obtain ⟨⟨A1, n1, c1⟩, ⟨A2, n2, c2⟩, ⟨A3, n3, c3⟩⟩ := x
 simp only [slV] at hrow hsu hsw hrw ⊢
 change Calls _ _ #[.agg #[.slice A1 n1 c1, .slice A2 n2 c2, .slice A3 n3 c3]] w _
 have hrv := hrow.form_
 obtain ⟨rfl, hn2, _⟩ := hrv.len_
 obtain ⟨W, hW⟩ : ∃ W, (w.alloc (.cells #[.slice A1 n1 c1, .slice A2 rc.length c2, .slice A3 n3 c3] 105)).alloc (.cells #[.slice none 0 0, .slice none 0 0, .slice none 0 0] 105) = W := ⟨_, rfl⟩
 have hWs : W.heap.size = w.heap.size + 2 := by rw [← hW]; simp
 have hW0 : W.heap[w.heap.size]? = some (.cells #[.slice A1 n1 c1, .slice A2 rc.length c2, .slice A3 n3 c3] 105 (0, 0)) := by
  rw [← hW, heap_alloc_old _ _ (by simp)]; exact heap_alloc_new _ _
 have hW1 : W.heap[w.heap.size + 1]? = some (.cells #[.slice none 0 0, .slice none 0 0, .slice none 0 0] 105 (0, 0)) := by
  rw [← hW]
  have := heap_alloc_new (w.alloc (.cells #[.slice A1 n1 c1, .slice A2 rc.length c2, .slice A3 n3 c3] 105)) (.cells #[.slice none 0 0, .slice none 0 0, .slice none 0 0] 105)
  simpa using this
 have hb : Below w.heap.size w W := by rw [← hW]; exact ((Below.refl _ _).alloc (Nat.le_refl _) _).alloc (by simp) _
 obtain ⟨p, hp⟩ : ∃ p, w.heap.size = p := ⟨_, rfl⟩
 rw [hp] at hW0 hW1 hb hWs
 obtain ⟨F, hF⟩ : ∃ F : Nat → Prop, (fun k => (Value.slice A1 n1 c1).ownBlock = some k) = F := ⟨_, rfl⟩
 have HFL : Hid (∀ k, F k → k < p) := fun k hk => by rw [← hF] at hk; rw [← hp]; exact (hsu.lt_ k hk).2
 -- what may be turned: where the bytes lay, the box, and what is new
 obtain ⟨G, hG⟩ : ∃ G : Nat → Prop, (fun k => F k ∨ k = p ∨ p + 2 ≤ k) = G := ⟨_, rfl⟩
 have HG : Hid (∀ k, G k ↔ (F k ∨ k = p ∨ p + 2 ≤ k)) := fun k => by rw [← hG]
 have HFW : Hid (∀ k, F k → who k = some (.fsure i)) := fun k hk => by rw [← hF] at hk; exact hsw k hk
 have HFI : Hid (∀ j, (Value.slice A1 n1 c1).ownBlock = some j ↔ F j) := fun j => by rw [← hF]
 have HROW : Hid (∀ wr, Turned G W wr → Lv cK wr p (.slice A2 rc.length c2) rc) := fun wr ht => by
  have h1 : OwnL cK W 0 (.slice A2 rc.length c2) rc := hrow.below_ hb (by omega)
  have h2 := (h1.turned_ ht (fun k hk hg => by
   rcases (HG.out k).1 hg with h | h
   ·have e1 := HFW.out k h
    rw [hrw k hk] at e1
    cases e1
   ·have h3 := (hrow.lt_ k hk).2
    omega))
  have h4 := (hrv.below_ hb (by omega)).turnedB_ ht (fun _ k hk hg => by
   rcases (HG.out k).1 hg with h | h
   ·have e1 := HFW.out k h
    rw [hrw k hk] at e1
    cases e1
   ·have h3 := (hrow.lt_ k hk).2
    omega)
  rw [← hp]
  exact h4
 have HACT : Hid (∀ (wr : World) (j : Nat) (r : RawC) (a : Sf.Act), Turned G W wr → rc[j]? = some r → f.row[j]? = some a → r.cut = a.cut ∧ r.at_ = a.at_ ∧ Lv yK wr p (slV r.sl) a.b ∧ (0 < a.b.length → ∀ k, (slV r.sl).ownBlock = some k → k < p ∧ who k = some .bytes)) := fun wr j r a ht hr ha => by
  have h := hacts j r a hr ha
  have hlv : Lv yK w p (slV r.sl) a.b := by rw [← hp]; exact h.lv
  have hblk : 0 < a.b.length → ∀ k, (slV r.sl).ownBlock = some k → k < p ∧ who k = some .bytes := fun h0 k hk => by
   refine ⟨?_, h.blk h0 k hk⟩
   obtain ⟨A, c, e, _, _, _, _, h5⟩ := hlv
   obtain ⟨b, off, rfl, hbp, _⟩ := h5 h0
   rw [e] at hk
   have e2 : b = k := Option.some.inj hk
   omega
  refine ⟨h.cut, h.at_, (hlv.below_ hb (Nat.le_refl _)).turnedB_ ht (fun h0 k hk hg => ?_), hblk⟩
  obtain ⟨h6, h7⟩ := hblk h0 k hk
  rcases (HG.out k).1 hg with h | h
  ·have e1 := HFW.out k h
   rw [h7] at e1
   cases e1
  ·omega
 have HZ : Hid (∀ wr, Turned G W wr → Rw wr (p + 1) 105 #[.slice none 0 0, .slice none 0 0, .slice none 0 0]) := fun wr ht => (ht.block _ (by omega) (fun hg => by
  rcases (HG.out _).1 hg with h | h
  ·have := HFL.out _ h; omega
  ·omega)).trans hW1
 have HS0 : Hid (OwnL yK W 0 (.slice A1 n1 c1) (Sf.bytes f 0)) := hsu.below_ hb (by omega)
 have HR0 : Hid (Rw W p 105 #[.slice A1 n1 c1, .slice A2 rc.length c2, .slice A3 n3 c3]) := hW0
 have HBW := Lib.hid hb
 have HWS := Lib.hid hWs
 have HOK := Lib.hid hok
 have HRL := Lib.hid hrl
 have HP := Lib.hid hp
 have f1 : W.cell? ⟨p, 1, none⟩ = some (.slice A2 rc.length c2) := by rw [HR0.out.cell]; rfl
 have hl : rc.length ≤ 9223372036854775807 := by have := hok.row; omega
 clear hrow hsu hsw hrw hok hacts hrv hn2 hW0 hW1 hb hF hG hrl
 go_enter Tryz.func87, Tryz.ntmps87
 go_wp2
 go_loopw [8] (fun i wr => ∃ (k : Nat) (u : Sl), k ≤ rc.length ∧ i = .int .i64 k ∧ Hid (Turned G W wr) ∧ Hid (Rw wr p 105 #[slV u, .slice A2 rc.length c2, .slice A3 n3 c3]) ∧ Hid (OwnL yK wr 0 (slV u) (Sf.bytes f k)) ∧ Hid (∀ j, (slV u).ownBlock = some j → F j ∨ p + 2 ≤ j)) (fun i _ => rc.length - (intOf i).toNat)
 case atStart => exact ⟨0, ⟨A1, n1, c1⟩, Nat.zero_le _, rfl, Turned.refl _ _, HR0.out, HS0.out, fun j hj => .inl ((HFI.out j).1 hj)⟩
 case round =>
  obtain ⟨k, u, hk, rfl, HT, HR, HO, HM⟩ := hrel
  have hRv := HROW.out wr HT.out
  have f1r : wr.cell? ⟨p, 1, none⟩ = some (.slice A2 rc.length c2) := by rw [HR.out.cell]; rfl
  by_cases hlt : k < rc.length
  ·obtain ⟨b, off, r, rfl, hbp, _, hr, hc⟩ := hRv.at_ hlt
   have e0 : wr.cell? ⟨b, off + k * 3, none⟩ = some (.int .i64 (r.at_ : Nat)) := hc 0 _ rfl
   have e1 : wr.cell? ⟨b, off + k * 3 + 1, none⟩ = some (.slice r.sl.A r.sl.n r.sl.c) := hc 1 _ rfl
   have e2 : wr.cell? ⟨b, off + k * 3 + 2, none⟩ = some (.bool r.cut) := hc 2 _ rfl
   have hkf : k < f.row.length := by have := HRL.out; omega
   obtain ⟨a, ha⟩ : ∃ a, f.row[k]? = some a := ⟨_, List.getElem?_eq_getElem hkf⟩
   obtain ⟨q1, q2, q3, q4⟩ := HACT.out wr k r a HT.out hr ha
   obtain ⟨o1, o2, o3⟩ := HOK.out.at_ k a ha
   have o4 := HOK.out.len k (by omega)
   have HBS := Lib.hid (Sf.bytes_succ ha)
   obtain ⟨at_, ⟨Ac, nc, cc⟩, cut⟩ := r
   obtain ⟨acut, aat, ab⟩ := a
   simp only at q1 q2 q3 q4 o1 o2 o3 e0 e1 e2
   subst q1 q2
   simp only [slV] at q3 q4
   obtain ⟨wp, hwp⟩ : ∃ wp, wr.alloc (.cells #[.int .i64 (at_ : Nat), .slice Ac nc cc, .bool cut] 153) = wp := ⟨_, rfl⟩
   have hgp : wr.grownBy wp none := by rw [← hwp]; exact World.grownBy_alloc wr _ none
   have hsp : wp.heap.size = wr.heap.size + 1 := by rw [← hwp]; simp
   have hbxp : wp.heap[wr.heap.size]? = some (.cells #[.int .i64 (at_ : Nat), .slice Ac nc cc, .bool cut] 153 (0, 0)) := by rw [← hwp]; exact heap_alloc_new _ _
   have hsr := HT.out.size
   have hW2 := HWS.out
   have d0 : wp.cell? ⟨wr.heap.size, 0, none⟩ = some (.int .i64 (at_ : Nat)) := by rw [cell_of_row _ _ 0 _ _ _ hbxp]; rfl
   have d1 : wp.cell? ⟨wr.heap.size, 1, none⟩ = some (.slice Ac nc cc) := by rw [cell_of_row _ _ 1 _ _ _ hbxp]; rfl
   have d2 : wp.cell? ⟨wr.heap.size, 2, none⟩ = some (.bool cut) := by rw [cell_of_row _ _ 2 _ _ _ hbxp]; rfl
   obtain ⟨uA, un, uc⟩ := u
   simp only [slV] at HR HO HM
   have HRp : Hid (Rw wp p 105 #[.slice uA un uc, .slice (some ⟨b, off, none⟩) rc.length c2, .slice A3 n3 c3]) := (hgp.block p (by omega) (by simp)).trans HR.out
   have g0 : wp.cell? ⟨p, 0, none⟩ = some (.slice uA un uc) := by rw [HRp.out.cell]; rfl
   have HOp : OwnL yK wp 0 (.slice uA un uc) (Sf.bytes f k) := HO.out.kept_ hgp (by cases h : (Value.slice uA un uc).ownBlock <;> simp)
   have hmp : Lv yK wp p (.slice Ac nc cc) ab := q3.kept_ hgp (by omega) (by simp)
   have hap : 0 < ab.length → Apart (.slice Ac nc cc) (.slice uA un uc) := fun h0 j h1 h2 => by
    obtain ⟨h3, h4⟩ := q4 h0 j h1
    rcases HM.out j h2 with h | h
    ·have h5 := HFW.out j h
     rw [h4] at h5
     cases h5
    ·omega
   have CD := Lib.hid (pcdo_any ⟨at_, ⟨Ac, nc, cc⟩, cut⟩ (.slice uA un uc) (Sf.bytes f k) 0 p ab wp HOp hmp hap o1 (by omega) (by omega) (Nat.zero_le _) (by omega))
   change Hid (Calls _ _ #[.agg #[.int .i64 (at_ : Nat), .slice Ac nc cc, .bool cut], .slice uA un uc] wp _) at CD
   have hki : (k : Int) < (rc.length : Int) := by omega
   have wk : IntKind.i64.wrap ((k : Int) + 1) = (k : Int) + 1 := by rw [IntKind.wrap_i64]; omega
   have HWP := Lib.hid hsp
   have HSR := Lib.hid hsr
   have HGP := Lib.hid hgp
   clear hc hr ha q3 q4 o1 o2 o3 o4 hkf hRv hgp hbxp hsp hsr hW2 HOp hmp hap hbp
   go_wp2_with fail
   refine CD.out.mono ?_
   rintro e W2 ⟨Av, cv, rfl, hd, hg2, hmv⟩
   have HD2 := Lib.hid hd
   have HG2 := Lib.hid hg2
   have HMV := Lib.hid hmv
   have HR2 : Hid (Rw W2 p 105 #[.slice uA un uc, .slice (some ⟨b, off, none⟩) rc.length c2, .slice A3 n3 c3]) := (hg2.block p HRp.out.lt (fun e => by
    have h1 := own_ne HO.out HR.out (by decide)
    exact h1 e.symm)).trans HRp.out
   have g2 : W2.cell? ⟨p, 0, none⟩ = some (.slice uA un uc) := by rw [HR2.out.cell]; rfl
   have z2 := HR2.out.frozen 0
   clear CD hd hg2 hmv
   go_wp2
   go_roundw
   case rel =>
    have hnb : (Value.slice uA un uc).ownBlock ≠ some p := own_ne HO.out HR.out (by decide)
    have hnv : p ≠ wp.heap.size := by have := HRp.out.lt; omega
    have hav : (Value.slice Av (Sf.done (Sf.bytes f k) ⟨cut, at_, ab⟩).length cv).ownBlock ≠ some p := fun e => own_ne HD2.out HR2.out (by decide) e
    refine ⟨k + 1, ⟨Av, (Sf.done (Sf.bytes f k) ⟨cut, at_, ab⟩).length, cv⟩, hlt, by go_num, ?_, HR2.out.set 0 _, ?_, fun j hj => ?_⟩
    ·have t1 : Turned G W wp := HT.out.trans (Turned.of_grown HGP.out) (fun j _ h => by cases h)
     have t2 : Turned G W W2 := t1.trans (Turned.of_grown HG2.out) (fun j _ h => (HG.out j).2 (by
      rcases HM.out j h with h | h
      ·exact .inl h
      ·exact .inr (.inr h)))
     exact t2.setCell (fun _ => (HG.out p).2 (.inr (.inl rfl))) _
    ·rw [HBS.out]
     exact HD2.out.of_block fun j hj => by
      unfold World.setCell
      have : j ≠ p := fun e => hav (by rw [← e]; exact hj)
      simp only [Array.getElem?_modify, Ne.symm this, if_false]
    ·rcases HMV.out j hj with h | h
     ·exact HM.out j h
     ·exact .inr (by have := HWP.out; have := HSR.out; have := HWS.out; omega)
   case measure => simp [intOf]; omega
  ·obtain rfl : k = rc.length := by omega
   have hki : ¬ ((rc.length : Int) < (rc.length : Int)) := by omega
   have z1 := HR.out.frozen 1
   obtain ⟨uA, un, uc⟩ := u
   simp only [slV] at HR HO HM
   obtain ⟨w4, hw4⟩ : ∃ w4, wr.setCell ⟨p, 1, none⟩ (.slice none 0 0) = w4 := ⟨_, rfl⟩
   have HR4 : Hid (Rw w4 p 105 #[.slice uA un uc, .slice none 0 0, .slice A3 n3 c3]) := by unfold Hid; rw [← hw4]; exact HR.out.set 1 _
   have HZ4 : Hid (Rw w4 (p + 1) 105 #[.slice none 0 0, .slice none 0 0, .slice none 0 0]) := by unfold Hid; rw [← hw4]; exact (HZ.out wr HT.out).setOther (by omega) _ _
   have k0 : w4.cell? ⟨p, 0, none⟩ = some (.slice uA un uc) := by rw [HR4.out.cell]; rfl
   have k1 : w4.cell? ⟨p, 1, none⟩ = some (.slice none 0 0) := by rw [HR4.out.cell]; rfl
   have k2 : w4.cell? ⟨p, 2, none⟩ = some (.slice A3 n3 c3) := by rw [HR4.out.cell]; rfl
   have j0 : w4.cell? ⟨p + 1, 0, none⟩ = some (.slice none 0 0) := by rw [HZ4.out.cell]; rfl
   have y0 := HZ4.out.frozen 0
   obtain ⟨w5, hw5⟩ : ∃ w5, w4.setCell ⟨p + 1, 0, none⟩ (.slice uA un uc) = w5 := ⟨_, rfl⟩
   have HZ5 : Hid (Rw w5 (p + 1) 105 #[.slice uA un uc, .slice none 0 0, .slice none 0 0]) := by unfold Hid; rw [← hw5]; exact HZ4.out.set 0 _
   have j1 : w5.cell? ⟨p + 1, 1, none⟩ = some (.slice none 0 0) := by rw [HZ5.out.cell]; rfl
   have y1 := HZ5.out.frozen 1
   obtain ⟨w6, hw6⟩ : ∃ w6, w5.setCell ⟨p + 1, 1, none⟩ (.slice none 0 0) = w6 := ⟨_, rfl⟩
   have HZ6 : Hid (Rw w6 (p + 1) 105 #[.slice uA un uc, .slice none 0 0, .slice none 0 0]) := by unfold Hid; rw [← hw6]; exact HZ5.out.set 1 _
   have j2 : w6.cell? ⟨p + 1, 2, none⟩ = some (.slice none 0 0) := by rw [HZ6.out.cell]; rfl
   have y2 := HZ6.out.frozen 2
   obtain ⟨w7, hw7⟩ : ∃ w7, w6.setCell ⟨p + 1, 2, none⟩ (.slice A3 n3 c3) = w7 := ⟨_, rfl⟩
   have HZ7 : Hid (Rw w7 (p + 1) 105 #[.slice uA un uc, .slice none 0 0, .slice A3 n3 c3]) := by unfold Hid; rw [← hw7]; exact HZ6.out.set 2 _
   have l0 : w7.cell? ⟨p + 1, 0, none⟩ = some (.slice uA un uc) := by rw [HZ7.out.cell]; rfl
   have l1 : w7.cell? ⟨p + 1, 1, none⟩ = some (.slice none 0 0) := by rw [HZ7.out.cell]; rfl
   have l2 : w7.cell? ⟨p + 1, 2, none⟩ = some (.slice A3 n3 c3) := by rw [HZ7.out.cell]; rfl
   have hT4 : Turned G W w4 := by rw [← hw4]; exact HT.out.setCell (fun _ => (HG.out p).2 (.inr (.inl rfl))) _
   have hT7 : Turned (fun k => G k ∨ k = p + 1) W w7 := by
    rw [← hw7, ← hw6, ← hw5]
    exact (((hT4.mono fun k _ h => .inl h).setCell (p := ⟨p + 1, 0, none⟩) (fun _ => .inr rfl) _).setCell (p := ⟨p + 1, 1, none⟩) (fun _ => .inr rfl) _).setCell (p := ⟨p + 1, 2, none⟩) (fun _ => .inr rfl) _
   have hO7 : OwnL yK w7 0 (.slice uA un uc) (Sf.bytes f rc.length) := HO.out.of_block fun k hk => by
    have n1 : k ≠ p := fun e => own_ne HO.out HR.out (by decide) (by rw [← e]; exact hk)
    have n2 : k ≠ p + 1 := fun e => own_ne HO.out (HZ.out wr HT.out) (by decide) (by rw [← e]; exact hk)
    have s1 : ∀ (v : World) (a : Nat) (o : Nat) (x : Value), k ≠ a → (v.setCell ⟨a, o, none⟩ x).heap[k]? = v.heap[k]? := fun v a o x h => by
     unfold World.setCell
     simp only [Array.getElem?_modify, Ne.symm h, if_false]
    rw [← hw7, s1 _ _ _ _ n2, ← hw6, s1 _ _ _ _ n2, ← hw5, s1 _ _ _ _ n2, ← hw4, s1 _ _ _ _ n1]
   have HO7 := Lib.hid hO7
   have HT7 := Lib.hid hT7
   clear hRv hT4 hT7 hO7
   go_wp2
   refine bodyPost_ret (v := .agg #[.slice uA un uc, .slice none 0 0, .slice A3 n3 c3]) (results_cell_row rfl _ _ (p + 1) 105 #[.slice uA un uc, .slice none 0 0, .slice A3 n3 c3] (0, 0) _ rfl HZ7.out Tryz.underlying105 rfl (by kernel_rfl)) rfl ⟨⟨uA, un, uc⟩, rfl, ?_, ?_, ?_⟩
   ·have h := HO7.out
    rwa [HRL.out, Sf.bytes_all] at h
   ·have t1 : Turned (fun k => (Value.slice A1 n1 c1).ownBlock = some k ∨ p ≤ k) w W := (Turned.of_below HBW.out).mono fun k _ h => .inr h
    have t2 := t1.trans HT7.out (fun k _ h => by
     rcases h with h | h
     ·rcases (HG.out k).1 h with h | h
      ·exact .inl ((HFI.out k).2 h)
      ·exact .inr (by omega)
     ·exact .inr (by omega))
    exact t2.mono fun k hk h => h.elim id (fun h => by have := HP.out; omega)
   ·intro j hj
    rcases HM.out j hj with h | h
    ·exact .inl ((HFI.out j).2 h)
    ·exact .inr (by have := HP.out; omega)
end Go.Proofs.YtiafeniflkikeaaGreat
namespace Go.Proofs.YtiafeniflkikeaaGreat
open Go.RowKit
set_option linter.unusedVariables false
theorem fileOk_sure {f : Sf.File} (h : FileOk f) : FileOk ⟨Sf.now f, []⟩ where
 len := fun k hk => by
  have e : k = 0 := by simpa using hk
  subst e
  have := h.len f.row.length (Nat.le_refl _)
  rw [Sf.bytes_all] at this
  exact this
 at_ := fun k c hk => by simp at hk
 row := by simp
section
variable {w : World} {fp : Fp} {t : Sf.St} {b : Nat}
set_option maxHeartbeats 4000000 in
set_option maxRecDepth 100000 in
theorem psync_any (h : PDisk w fp t b) (hf : Sf.Few t) (s : ByteArray) (hs : s.size ≤ maxLen) : Calls Tryz.prog 44 #[.pointer (some ⟨b, 0, none⟩), .string s] w (IsDeed PDisk fp b (Sf.sync t s) w) := by
 have HD := Lib.hid h
 obtain ⟨who, bf, bs, bn, vr, ff, rn, h⟩ := h
 have CF := Lib.hid (pfind_disk h s hs)
 obtain ⟨n, er, hge⟩ : ∃ k er, Sf.get t s = (k, er) := ⟨_, _, rfl⟩
 rw [hge] at CF
 have HE0 : Hid (Sf.sync t s = if er ≠ 0 then (er, t) else if (Sf.blown t).1 ≠ 0 then Sf.blown t else (0, { (Sf.blown t).2 with files := t.files.set n ⟨Sf.now (Sf.fileAt t n), []⟩ })) := by unfold Hid Sf.sync; rw [hge]
 by_cases he : er = 0
 ·subst he
  obtain ⟨x, hx, hn, hX⟩ := h.file_of hge
  have HE1 : Hid (Sf.sync t s = if (Sf.blown t).1 ≠ 0 then Sf.blown t else (0, { (Sf.blown t).2 with files := t.files.set n ⟨Sf.now (Sf.fileAt t n), []⟩ })) := HE0.out.trans (if_neg (by simp))
  have CA := Lib.hid (pact_disk h.mono hf)
  have hsa := pblown_same t
  obtain ⟨ea, u, hbl⟩ : ∃ er u, Sf.blown t = (er, u) := ⟨_, _, rfl⟩
  rw [hbl] at CA HE1 hsa
  simp only at CA HE1 hsa
  have HH := Lib.hid h
  clear hbl HE0 hge
  by_cases hea : ea = 0
  ·subst hea
   have HE := Lib.hid (HE1.out.trans (if_neg (by simp)))
   clear HE1
   obtain ⟨f, hfe⟩ : ∃ f, Sf.fileAt t n = f := ⟨_, rfl⟩
   rw [hfe] at hX HE
   have hac := h.good.acts
   have hffl := h.good.files
   have hni : (Lit.int .i64 (n : Int)).wf = true := WalkArith.wf_i64 (by omega)
   have HX := Lib.hid hX
   have HXE := Lib.hid hx
   have HSA := Lib.hid hsa
   have HNI := Lib.hid hni
   have HAC : Hid (t.acts ≤ 1099511627776 ∧ n < t.files.length) := ⟨hac, hn⟩
   obtain ⟨F, hF⟩ : ∃ F : Nat → Prop, (fun k => (slV x.sure).ownBlock = some k) = F := ⟨_, rfl⟩
   have HFW : Hid (∀ k, F k → who k = some (.fsure n)) := fun k hk => by rw [← hF] at hk; exact hX.sureW k hk
   have HFN : Hid (∀ k r, who k = some r → r ≠ .fsure n → ¬ F k) := fun k r hk h1 hf => by
    have h := HFW.out k hf
    rw [hk] at h
    exact h1 (Option.some.inj h)
   have HFE : Hid ((fun k => (slV x.sure).ownBlock = some k) = F) := hF
   clear hsa hX hx hac hffl hni hn hfe hf h hF
   go_enter Tryz.func44, Tryz.ntmps44
   go_wp2_with fail
   refine CF.out.mono ?_
   rintro e1 w1 ⟨rfl, rfl⟩
   clear CF
   go_wp2_with fail
   refine CA.out.mono ?_
   rintro e1 W ⟨rfl, h1, hT1⟩
   have HP1 := Lib.hid h1
   have HT1 := Lib.hid hT1
   have hXW : HasX W who n x f := HX.out.turned hT1 (fun k hk => by
    rw [hk, HH.out.mine]
    simp)
   have HXW := Lib.hid hXW
   have CS := Lib.hid (psynced_any W.drew (hXW.turned ((Turned.refl (fun _ => False) W).drew) (fun _ h => h.elim)))
   rw [HFE.out] at CS
   have HHC : Hid (∀ w', Turned F W w' → IsHead w' b (headP u bf bs bn vr)) := fun w' ht => (ht.block b (HP1.out.lt b (by rw [HP1.out.mine]; rfl)) (HFN.out b _ HP1.out.mine (by simp))).trans HP1.out.head
   have HC : Hid (∀ w', Turned F W w' → w'.cell? ⟨b, 1, none⟩ = some (.map (some bf))) := fun w' ht => head_cellP (HHC.out w' ht) rfl
   have HMP : Hid (∀ w', Turned F W w' → IsMp fM w' bf (64 + t.acts + 0) ff) := fun w' ht => (HH.out.body.files.turned_ hT1 (fun e => by
    have h2 := HH.out.body.filesW
    rw [e, HH.out.mine] at h2
    cases h2)).turned_ ht (HFN.out bf _ HH.out.body.filesW (by simp))
   have HLK : Hid (∀ w', Turned F W w' → (Instr.lookup 66 (.map (some bf)) (.int .i64 (n : Nat)) false).run Tryz.prog w' = .ok (xV x) w') := fun w' ht => by
    have := (HMP.out w' ht).look (x := (n : Int)) HNI.out
    rw [HXE.out] at this
    exact this
   obtain ⟨C, hC⟩ : ∃ C, xV x = C := ⟨_, rfl⟩
   rw [hC] at CS HLK
   have HS0 : Hid (Turned F W W.drew) := (Turned.refl F W).drew
   clear CA h1 hT1 hXW hC
   go_wp2
   refine wp_region_m (fun w' => Turned F W w') 12 (by kernel_rfl) ?_
   have hH := HS0.out
   refine zM (i := 0) (v := ?_) rfl (by kernel_rfl) (fun _ _ _ h => h) hH (Or.inl ⟨by rfl, (by intro w' hSw; go_simp; first | done | with_reducible rfl)⟩) ?_
   try simp only [Act.put, zA, zC, zD, zE, zF]
   refine zM (i := 1) (v := ?_) rfl (by kernel_rfl) (fun _ _ _ h => h) hH (Or.inl ⟨by rfl, (by intro w' hSw; go_simp; first | done | with_reducible rfl)⟩) ?_
   try simp only [Act.put, zA, zB, zC, zD, zE, zF]
   refine zM (i := 2) (v := ?_) rfl (by kernel_rfl) (fun _ _ _ h => h) hH (Or.inl ⟨by rfl, (by intro w' hSw; go_simp; first | done | with_reducible rfl)⟩) ?_
   try simp only [Act.put, zA, zB, zC, zD, zE, zF]
   refine zM (i := 3) (v := ?_) rfl (by kernel_rfl) (fun _ _ _ h => h) hH (Or.inl ⟨by rfl, (by intro w' hSw; have s1 := HC.out w' hSw; go_simp; first | done | with_reducible rfl)⟩) ?_
   try simp only [Act.put, zA, zB, zC, zD, zE, zF]
   refine zM (i := 4) (v := ?_) rfl (by kernel_rfl) (fun _ _ _ h => h) hH (Or.inl ⟨by rfl, (by intro w' hSw; go_simp; first | done | with_reducible rfl)⟩) ?_
   try simp only [Act.put, zA, zB, zC, zD, zE, zF]
   refine zM (i := 5) (v := ?_) rfl (by kernel_rfl) (fun _ _ _ h => h) hH (Or.inl ⟨by rfl, (by intro w' hSw; go_simp; first | done | with_reducible rfl)⟩) ?_
   try simp only [Act.put, zA, zB, zC, zD, zE, zF]
   refine zM (i := 6) (v := ?_) rfl (by kernel_rfl) (fun _ _ _ h => h) hH (Or.inl ⟨by rfl, (by intro w' hSw; go_simp; first | done | with_reducible rfl)⟩) ?_
   try simp only [Act.put, zA, zB, zC, zD, zE, zF]
   refine zM (i := 7) (v := ?_) rfl (by kernel_rfl) (fun _ _ _ h => h) hH (Or.inl ⟨by rfl, (by intro w' hSw; go_simp; first | done | with_reducible rfl)⟩) ?_
   try simp only [Act.put, zA, zB, zC, zD, zE, zF]
   refine zM (i := 8) (v := ?_) rfl (by kernel_rfl) (fun _ _ _ h => h) hH (Or.inl ⟨by rfl, (by intro w' hSw; have s1 := HC.out w' hSw; go_simp; first | done | with_reducible rfl)⟩) ?_
   try simp only [Act.put, zA, zB, zC, zD, zE, zF]
   refine zM (i := 9) (v := ?_) rfl (by kernel_rfl) (fun _ _ _ h => h) hH (Or.inl ⟨by rfl, (by intro w' hSw; go_simp; first | done | with_reducible rfl)⟩) ?_
   try simp only [Act.put, zA, zB, zC, zD, zE, zF]
   refine zM (i := 10) (v := ?_) rfl (by kernel_rfl) (fun _ _ _ h => h) hH (Or.inl ⟨by rfl, (by intro w' hSw; have s1 := HLK.out w' hSw; go_simp; first | done | with_reducible rfl)⟩) ?_
   try simp only [Act.put, zA, zB, zC, zD, zE, zF]
   refine wpAnyM_next (i := 11) (by kernel_rfl) rfl (fun K hK => ?_)
   go_simp
   refine CS.out.mono ?_
   rintro e W3 ⟨v, rfl, hn3, hT3, hmv⟩
   have hTW3 : Turned F W W3 := HS0.out.trans hT3 (fun _ _ h => h)
   have HN3 := Lib.hid hn3
   have HMV : Hid (Moved W (slV x.sure) (slV v)) := fun k hk => (hmv k hk).imp id (fun h => h)
   have HT3 := Lib.hid hTW3
   obtain ⟨w4, hup, hm4, hg4⟩ := (HMP.out W3 hTW3).upd (by have := HAC.out; have := HH.out.good.files; simp only [maxLen]; omega) HNI.out (⟨v, ⟨none, 0, 0⟩, x.now⟩ : RawX)
   change (Instr.mapUpdate 66 (.map (some bf)) (.int .i64 (n : Nat)) (xV ⟨v, ⟨none, 0, 0⟩, x.now⟩)).run Tryz.prog W3 = .ok () w4 at hup
   obtain ⟨D, hDD⟩ : ∃ D, xV ⟨v, ⟨none, 0, 0⟩, x.now⟩ = D := ⟨_, rfl⟩
   rw [hDD] at hup
   rw [hDD]
   have HM4 := Lib.hid hm4
   have HG4 := Lib.hid hg4
   refine hK.out _ _ (.inr hTW3) ?_
   clear hK K hn3 hT3 hmv hTW3 hm4 hg4 CS hDD
   try simp only [Act.put, zA, zB, zC, zD, zE, zF]
   refine wpAnyM_next (i := 12) (by kernel_rfl) rfl (fun K hK => ?_)
   go_simp
   refine hK.out _ _ (.inl (Nat.le_refl _)) ?_
   clear hK K hup
   try simp only [Act.put, zA, zB, zC, zD, zE, zF]
   refine wpAnyM_done (by kernel_rfl) ?_ _
   go_wp2
   go_ret
   rw [HE.out]
   have HT4 : Hid (Turned (fun k => F k ∨ k = bf) W w4) := ((HT3.out.mono fun k _ h => .inl h)).trans (Turned.of_grown HG4.out) (fun k _ h => .inr (Option.some.inj h).symm)
   have HT5 : Hid (Turned (fun k => k = b ∨ F k ∨ k = bf) w w4) := (HT1.out.mono fun k _ h => .inl h).trans HT4.out (fun k _ h => .inr h)
   have hnew : ∀ k, W.heap.size ≤ k → who k = none := fun k hk => HP1.out.new hk
   have r2 : More who (lab who (slV v) (.fsure n)) := lab_more fun k hk => by
    rcases HMV.out k hk with h | h
    ·exact .inr (HX.out.sureW k h)
    ·exact .inl (hnew k h)
   obtain ⟨who', hwho⟩ : ∃ who', lab who (slV v) (.fsure n) = who' := ⟨_, rfl⟩
   rw [hwho] at r2
   have hs34 := HG4.out.size
   have hsm : ∀ k, (who' k).isSome → (who k).isSome ∨ (w.heap.size ≤ k ∧ k < w4.heap.size) := fun k hk => by
    rw [← hwho] at hk
    rcases lab_some hk with hk | hk
    ·exact .inl hk
    ·have h3 := (HN3.out.lt_ k hk).2
     rcases HMV.out k hk with h | h
     ·exact .inl (by rw [HX.out.sureW k h]; rfl)
     ·exact .inr ⟨Nat.le_trans HT1.out.size h, by omega⟩
   have hv4 : OwnL yK w4 0 (slV v) (Sf.now f) := HN3.out.turned_ (Turned.of_grown HG4.out) (fun k hk e => by
    obtain rfl : bf = k := Option.some.inj e
    have h1 := r2 bf .files HH.out.body.filesW
    rw [← hwho, lab_bears _ _ _ bf hk] at h1
    cases h1)
   have noF : ∀ r, r ≠ .head → r ≠ .fsure n → r ≠ .files → ∀ k, (k = b ∨ F k ∨ k = bf) → who k ≠ some r := fun r h0 h1 h3 k hf hk => by
    rcases hf with hf | hf | hf
    ·rw [hf, HH.out.mine] at hk; exact h0 (Option.some.inj hk).symm
    ·exact HFN.out k r hk h1 hf
    ·rw [hf, HH.out.body.filesW] at hk; exact h3 (Option.some.inj hk).symm
   have hX4 : HasX w4 who' n ⟨v, ⟨none, 0, 0⟩, x.now⟩ ⟨Sf.now f, []⟩ :=
    ⟨hv4, by rw [← hwho]; exact lab_bears _ _ _, HX.out.now.turned_ HT5.out (HX.out.nowW.off (noF _ (by simp) (by simp) (by simp))), HX.out.nowW.more r2, ⟨[], rfl, OwnL.nil_ _ _ _, fun j r a hr => by simp at hr⟩, Bears.nil_ _ _, fun _ => rfl, fileOk_sure HX.out.ok⟩
   obtain ⟨e1, e2, e3, e4, e5, e6⟩ := HSA.out
   have hB := (HH.out.body.set_file (q := 1) HAC.out.2 HXE.out _ _ r2 HT5.out (fun k hk => by
    rcases hk with hk | hk | hk
    ·exact .inr (.inl (by rw [hk]; exact HH.out.mine))
    ·exact .inr (.inr (.inr (.inl (HFW.out k hk))))
    ·exact .inr (.inr (.inl (by rw [hk]; exact HH.out.body.filesW)))) HM4.out hX4 (Nat.zero_le _)).congr (u := { u with files := t.files.set n ⟨Sf.now f, []⟩ }) (q := 0) rfl e2 e3 e4 (by show t.acts + 1 ≤ u.acts + 0; omega)
   have hG := HP1.out.good.set_file (n := n) (f' := ⟨Sf.now f, []⟩) (q := 0) (by simp) (Nat.le_refl _)
   rw [e1] at hG
   refine ⟨rfl, fpOf who', ⟨who', _, _, _, _, _, _, ?_, hB, hG, r2 _ _ HH.out.mine, fun k => Iff.rfl, fun k h => h, fun k hk => ?_⟩, ⟨fun k hk => (hsm k hk).elim (fun h => .inl ((HH.out.m k).2 h)) (fun h => .inr h.1), fun k hk => hk.elim⟩, ?_⟩
   ·rw [← e1, head_set_file]
    refine (HG4.out.block b ?_ (fun e => ?_)).trans (HHC.out W3 HT3.out)
    ·exact Nat.lt_of_lt_of_le (HP1.out.lt b (by rw [HP1.out.mine]; rfl)) HT3.out.size
    ·have h2 := HH.out.body.filesW
     have e2 : bf = b := (Option.some.inj e).symm
     rw [e2, HH.out.mine] at h2
     cases h2
   ·rcases hsm k hk with h | h
    ·exact Nat.lt_of_lt_of_le (HH.out.lt k h) HT5.out.size
    ·exact h.2
   ·exact HT5.out.mono fun k _ hk => (HH.out.m k).2 (by
     rcases hk with hk | hk | hk
     ·rw [hk, HH.out.mine]; rfl
     ·rw [HFW.out k hk]; rfl
     ·rw [hk, HH.out.body.filesW]; rfl)
  ·have hq : ((ea : Int) != 0) = true := by rw [bne_iff_ne]; omega
   have HE := Lib.hid (HE1.out.trans (if_pos hea))
   clear HE1 hea hX hx hn hf h hsa
   go_enter Tryz.func44, Tryz.ntmps44
   go_wp2_with fail
   refine CF.out.mono ?_
   rintro e1 w1 ⟨rfl, rfl⟩
   clear CF
   go_wp2_with fail
   refine CA.out.mono ?_
   rintro e1 w1 ⟨rfl, h1, hT1⟩
   have H1 := Lib.hid h1
   have H2 := Lib.hid hT1
   clear CA h1 hT1
   go_wp2
   go_ret
   rw [HE.out]
   exact ⟨rfl, fp, ⟨_, _, _, _, _, _, _, H1.out⟩, Fp.Next.refl _ _, turned_mine HH.out H2.out⟩
 ·have hq : ((er : Int) != 0) = true := by rw [bne_iff_ne]; omega
  have HE : Hid (Sf.sync t s = (er, t)) := HE0.out.trans (if_pos he)
  clear h hge hf HE0 he
  go_enter Tryz.func44, Tryz.ntmps44
  go_wp2_with fail
  refine CF.out.mono ?_
  rintro e1 w1 ⟨rfl, rfl⟩
  clear CF
  go_wp2
  go_ret
  rw [HE.out]
  exact ⟨rfl, fp, HD.out, Fp.Next.refl _ _, Turned.refl _ _⟩
end
end Go.Proofs.YtiafeniflkikeaaGreat
namespace Go.Proofs.YtiafeniflkikeaaGreat
open Go.RowKit
set_option linter.unusedVariables false
theorem dirF_nil : Sf.dirF [] = fun _ => none := by funext s; rfl
theorem goodS_new {n : Nat} (hn : n ≤ 1048576) : GoodS 0 (Sf.new n) where
 room := hn
 files := by simp [Sf.new]
 rows := by simp [Sf.new]
 acts := by simp [Sf.new]
 fuse := by simp [Sf.new]
 sure := Sf.OkDir.nil
 seen := Sf.OkDir.nil
 row := fun d hd => by cases hd
 lens := fun d hd => by
  rcases hd with rfl | rfl | hd
  ·exact ⟨by simp [Sf.new], fun e he => by cases he⟩
  ·exact ⟨by simp [Sf.new], fun e he => by cases he⟩
  ·cases hd
 nums := List.nodup_nil
 frow := fun f hf => by cases hf
theorem noReach (n m : Nat) : ¬ Reach (Sf.new n) m := fun hm => by
 obtain ⟨d, hd, e, he, _⟩ := hm
 rcases hd with rfl | rfl | hd
 ·cases he
 ·cases he
 ·cases hd
def who0 (p : Nat) : Who := fun k => if k = p then some .files else if k = p + 1 then some .sure else if k = p + 2 then some .names else if k = p + 3 then some .head else none
theorem who0_some {p k : Nat} (h : (who0 p k).isSome) : p ≤ k ∧ k < p + 4 := by
 unfold who0 at h
 split at h
 ·omega
 ·split at h
  ·omega
  ·split at h
   ·omega
   ·split at h
    ·omega
    ·cases h
set_option maxHeartbeats 2000000 in
set_option maxRecDepth 100000 in
theorem pempty_any (n : Nat) (hn : n ≤ 1048576) (w : World) : Calls Tryz.prog 35 #[.int .i64 (n : Nat)] w (fun e w' => e = .returned (.pointer (some ⟨w.heap.size + 3, 0, none⟩)) ∧
  PHas w' (fpOf (who0 w.heap.size)) 0 (Sf.new n) (w.heap.size + 3) (who0 w.heap.size) w.heap.size (w.heap.size + 1) (w.heap.size + 2) ⟨none, 0, 0⟩ (fun _ => none) [] ∧ Below w.heap.size w w' ∧ IsMp fM w' w.heap.size 0 (fun _ => none) ∧ IsMp dM w' (w.heap.size + 2) 0 (fun _ => none)) := by
 have hmk : ∀ (t : TypeId) (w : World), (Instr.makeMap t none).run Tryz.prog w = .ok (.map (some w.heap.size)) (w.alloc (.map #[] 0)) := fun t w => rfl
 obtain ⟨p, hp⟩ : ∃ p, w.heap.size = p := ⟨_, rfl⟩
 rw [hp]
 obtain ⟨w1, hw1⟩ : ∃ w1, w.alloc (.map #[] 0) = w1 := ⟨_, rfl⟩
 obtain ⟨w2, hw2⟩ : ∃ w2, w1.alloc (.map #[] 0) = w2 := ⟨_, rfl⟩
 obtain ⟨w3, hw3⟩ : ∃ w3, w2.alloc (.map #[] 0) = w3 := ⟨_, rfl⟩
 have h1 : w1.heap.size = p + 1 := by rw [← hw1, ← hp]; simp
 have h2 : w2.heap.size = p + 2 := by rw [← hw2]; simp [h1]
 have h3 : w3.heap.size = p + 3 := by rw [← hw3]; simp [h2]
 have m1 : IsMp fM w1 p 0 (fun _ => none) := by rw [← hw1, ← hp]; exact IsMp.made fM w
 have m2 : IsMp dM w2 (p + 1) 0 (fun _ => none) := by rw [← hw2, ← h1]; exact IsMp.made dM w1
 have m3 : IsMp dM w3 (p + 2) 0 (fun _ => none) := by rw [← hw3, ← h2]; exact IsMp.made dM w2
 obtain ⟨w4, hw4⟩ : ∃ w4, w3.alloc (.cells (headP (Sf.new n) p (p + 1) (p + 2) ⟨none, 0, 0⟩) 71) = w4 := ⟨_, rfl⟩
 have t12 : Turned (fun _ => False) w1 w2 := by rw [← hw2]; exact (Turned.refl _ _).alloc _
 have t23 : Turned (fun _ => False) w2 w3 := by rw [← hw3]; exact (Turned.refl _ _).alloc _
 have t34 : Turned (fun _ => False) w3 w4 := by rw [← hw4]; exact (Turned.refl _ _).alloc _
 have M1 : IsMp fM w4 p 0 (fun _ => none) := ((m1.turned_ t12 (fun h => h)).turned_ t23 (fun h => h)).turned_ t34 (fun h => h)
 have M2 : IsMp dM w4 (p + 1) 0 (fun _ => none) := (m2.turned_ t23 (fun h => h)).turned_ t34 (fun h => h)
 have M3 : IsMp dM w4 (p + 2) 0 (fun _ => none) := m3.turned_ t34 (fun h => h)
 have h4 : w4.heap.size = p + 4 := by rw [← hw4]; simp [h3]
 have hh : IsHead w4 (p + 3) (headP (Sf.new n) p (p + 1) (p + 2) ⟨none, 0, 0⟩) := by rw [← hw4, ← h3]; exact heap_alloc_new _ _
 have hb : Below p w w4 := by
  rw [← hw4, ← hw3, ← hw2, ← hw1, ← hp]
  exact ((((Below.refl _ _).alloc (Nat.le_refl _) _).alloc (by simp) _).alloc (by simp; omega) _).alloc (by simp; omega) _
 have HB : Hid (PBody w4 (who0 p) 0 (Sf.new n) p (p + 1) (p + 2) ⟨none, 0, 0⟩ (fun _ => none) []) :=
  ⟨M1.mono_ (Nat.zero_le _), by show IsMp dM w4 (p + 2) _ (Sf.dirF []); rw [dirF_nil]; exact M3.mono_ (Nat.zero_le _), by show IsMp dM w4 (p + 1) _ (Sf.dirF []); rw [dirF_nil]; exact M2.mono_ (Nat.zero_le _), OwnL.nil_ _ _ _, rfl, rfl, fun _ => rfl,
   fun i x hx => (by cases hx), fun m hm => absurd hm (noReach n m), by simp [who0], by simp [who0], by simp [who0], Bears.nil_ _ _⟩
 have HP : Hid (PHas w4 (fpOf (who0 p)) 0 (Sf.new n) (p + 3) (who0 p) p (p + 1) (p + 2) ⟨none, 0, 0⟩ (fun _ => none) []) :=
  ⟨hh, HB.out, goodS_new hn, by simp [who0], fun k => Iff.rfl, fun k h => h, fun k hk => by have := who0_some hk; omega⟩
 have HBB := Lib.hid hb
 have HM1 := Lib.hid M1
 have HM3 := Lib.hid M3
 clear m1 m2 m3 t12 t23 t34 M1 M2 M3 hh hb HB
 change w3.alloc (.cells #[.int .i64 (n : Nat), .map (some p), .int .i64 0, .map (some (p + 1)), .slice none 0 0, .map (some (p + 2)), .int .i64 0, .int .i64 0, .bool false] 71) = w4 at hw4
 go_enter Tryz.func35, Tryz.ntmps35
 go_wp2
 go_ret
 exact ⟨rfl, HP.out, HBB.out, HM1.out, HM3.out⟩
set_option maxHeartbeats 2000000 in
set_option maxRecDepth 100000 in
theorem pnew_any (n : Int) (hn : I64 n) (w : World) : Calls Tryz.prog 6 #[.int .i64 n] w (fun e w' =>
 if n < 0 ∨ 1048576 < n then e = .returned (.tuple #[.pointer none, .int .i64 2]) ∧ Below w.heap.size w w'
 else ∃ (b : Nat) (f' : Fp), e = .returned (.tuple #[.pointer (some ⟨b, 0, none⟩), .int .i64 0]) ∧ PDisk w' f' (Sf.new n.toNat) b ∧ f'.From w.heap.size ∧ Below w.heap.size w w') := by
 by_cases h : n < 0 ∨ 1048576 < n
 ·simp only [if_pos h]
  by_cases h0 : n < 0
  ·go_enter Tryz.func6, Tryz.ntmps6
   go_wp2
   go_ret2
   exact ⟨rfl, Below.refl _ _⟩
  ·have h1 : 1048576 < n := h.elim (fun h => absurd h h0) id
   go_enter Tryz.func6, Tryz.ntmps6
   go_wp2
   go_ret2
   exact ⟨rfl, Below.refl _ _⟩
 ·simp only [if_neg h]
  obtain ⟨m, rfl⟩ : ∃ m : Nat, n = (m : Int) := ⟨n.toNat, by omega⟩
  have hm : m ≤ 1048576 := by omega
  have h0 : ¬ ((m : Int) < 0) := by omega
  have h1 : ¬ (1048576 < (m : Int)) := by omega
  have CE := Lib.hid (pempty_any m hm w)
  clear h hn
  go_enter Tryz.func6, Tryz.ntmps6
  go_wp2_with fail
  refine CE.out.mono ?_
  rintro e w1 ⟨rfl, hP, hB, _, _⟩
  have HP := Lib.hid hP
  have HB := Lib.hid hB
  clear CE hP hB
  go_wp2
  go_ret2
  exact ⟨_, _, rfl, ⟨_, _, _, _, _, _, _, HP.out⟩, fun k hk => hk.elim (fun hk => (who0_some hk).1) (fun hk => hk.elim), HB.out⟩
end Go.Proofs.YtiafeniflkikeaaGreat

