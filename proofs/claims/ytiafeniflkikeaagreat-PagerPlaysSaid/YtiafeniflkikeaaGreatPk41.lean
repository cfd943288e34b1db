/- Parts of the proof. -/
import Derived.Test.YtiafeniflkikeaaGreatPk25
import Derived.Test.YtiafeniflkikeaaGreatPk40
import Derived.Test.YtiafeniflkikeaaGreatPk15
import Derived.Test.YtiafeniflkikeaaGreatPk17
namespace Go.Proofs.YtiafeniflkikeaaGreat
open Go.RowKit
set_option linter.unusedVariables false
section
variable {w : World} {fp : Fp} {s : Nat} {t : Sf.St} {b : Nat} {who : Who} {bf bs bn : Nat} {vr : Sl} {ff : Int → Option RawX} {rn : List RawN}
set_option maxHeartbeats 1000000 in
set_option maxRecDepth 100000 in
theorem pdead_any (h : PDisk w fp t b) : Calls Tryz.prog 18 #[.pointer (some ⟨b, 0, none⟩)] w (IsBool t.dead w) := by
 obtain ⟨who, bf, bs, bn, vr, ff, rn, h⟩ := h
 have CM := Lib.hid (pmade_cell (w := w) (b := b) (some bf) (h.cell rfl))
 have d8 : w.cell? ⟨b, 8, none⟩ = some (.bool t.dead) := h.cell rfl
 clear h
 go_enter Tryz.func18, Tryz.ntmps18
 go_wp2_with fail
 refine CM.out.mono ?_
 rintro e1 w1 ⟨rfl, rfl⟩
 clear CM
 go_wp2
 go_ret
 exact ⟨rfl, Below.refl _ _⟩
end
end Go.Proofs.YtiafeniflkikeaaGreat
namespace Go.Proofs.YtiafeniflkikeaaGreat
open Go.RowKit
set_option linter.unusedVariables false
section
variable {w w' : World} {fp fd : Fp} {s : Pp.S} {F : List Nat} {b bf U D P H last frm : Nat} {fP : Int → Option RawU} {fH : Int → Option RawH} {t : Sf.St}
theorem find_mem {l : List Pa.Page} (hr : Pa.Rising l) {n : Int} {x : Pa.Page} (hx : x ∈ l) (hn : (x.n : Int) = n) : Pa.find l n = some x := by
 unfold Pa.find
 cases hq : Pa.idx l n with
 | none =>
  unfold Pa.idx at hq
  rw [List.findIdx?_eq_none_iff] at hq
  simpa [hn] using hq x hx
 | some i =>
  obtain ⟨y, hy, hyn⟩ := Pa.idx_lt hq
  rw [Option.bind_some, hy, Pp.rising_inj hr (List.mem_of_getElem? hy) hx (by omega)]
theorem IsFound.ok {r : Nat × List Nat × Nat} {kd : Nat} {a1 : Option Addr} {a2 a3 : Nat} {kind : Nat} {body : List Nat} {x : Int} (h : PyHas w fp s F b bf U D P H last frm fP fH) (hb : Below w.heap.size w w') (hu : InB w fp.R ⟨kd, ⟨a1, a2, a3⟩⟩ kind body) (hr : r = (kind, body, 0)) (hx : x = 0) :
  IsFound fp s F b bf r w (.returned (.tuple #[.agg #[.int .u8 (kd : Nat), .slice a1 a2 a3], .int .i64 x])) w' := by
 subst hr hx
 exact ⟨⟨kd, ⟨a1, a2, a3⟩⟩, fp, rfl, fun _ => hu.turned (Turned.of_below hb) (fun k hk hj => by have := (h.r k hk).2; omega), fun h => absurd rfl h, ⟨_, _, _, _, _, _, _, _, (h.below hb).more (Nat.le_succ _)⟩, Fp.Next.refl _ _, (Turned.of_below hb).mono (fun q hq h => absurd hq (by omega))⟩
theorem IsFound.stored {r : Nat × List Nat × Nat} {u : RawU} {fp' : Fp} {Y w4 X2 : World} (hl : fp.Lt w.heap.size) (hb : Below w.heap.size w Y) (hs : w.heap.size < Y.heap.size) (h1 : r.2.2 = 0 → InB w4 fp'.R u r.1 r.2.1) (h2 : r.2.2 ≠ 0 → r.1 = 0 ∧ r.2.1 = [])
  (hP : PPager w4 fp' { s with turns := s.turns + 1 } F b bf) (hN : fp.Next fp' Y.heap.size) (hT : Turned fp.M Y w4) (hX : Turned (fun q => q = w.heap.size) w4 X2) : IsFound fp s F b bf r w (.returned (.tuple #[uV u, .int .i64 (r.2.2 : Nat)])) X2 := by
 have hM : ¬ fp'.M w.heap.size := fun h => by
  rcases hN.m _ h with h | h
  ·have := hl _ (.inl h); omega
  ·omega
 have hR : ¬ fp'.R w.heap.size := fun h => by
  rcases hN.r _ h with h | h
  ·have := hl _ (.inr h); omega
  ·omega
 refine ⟨u, fp', rfl, fun h => (h1 h).turned hX (fun k hk he => hR (he ▸ hk)), h2, ppager_turned hP hX (fun q hq => by subst hq; exact ⟨hM, hR⟩), (Fp.Next.refl fp w.heap.size).trans hN (by omega), ?_⟩
 have h3 : Turned fp.M w w4 := ((Turned.of_below hb).mono (G := fp.M) (fun q hq h => absurd hq (by omega))).trans hT (fun _ _ h => h)
 exact h3.trans hX (fun q hq h => absurd hq (by omega))
theorem find_none {l : List Pa.Page} {n : Int} (h : ∀ x ∈ l, (x.n : Int) ≠ n) : Pa.find l n = none := by
 unfold Pa.find
 rw [Pa.idx_none h]
 rfl
set_option maxHeartbeats 4000000 in
set_option maxRecDepth 100000 in
theorem pyfind_any (h : PyHas w fp s F b bf U D P H last frm fP fH) (hD : PDisk w fd t bf) (hd : t.dead = false) (k : Nat) (hg : Sf.get t s.name = (k, 0)) (hF : Sf.now (Sf.fileAt t k) = F) (htn : s.turns < 2305843009213693952) (n : Int) (hn : I64 n) :
  Calls Tryz.prog 75 #[.pointer (some ⟨b, 0, none⟩), .int .i64 n] w (IsFound fp s F b bf (Pp.readE s F n) w) := by
 obtain ⟨W, hW⟩ : ∃ W, w.alloc (.cells #[.int .u8 0, .slice none 0 0] 108) = W := ⟨_, rfl⟩
 have hb : Below w.heap.size w W := by rw [← hW]; exact (Below.refl _ _).alloc (Nat.le_refl _) _
 have HW0 : Hid (Rw W w.heap.size 108 #[.int .u8 0, .slice none 0 0]) := by unfold Hid; rw [← hW]; exact Rw.new w _ _
 have HBW := Lib.hid hb
 have HHW := Lib.hid (h.below hb)
 have HDW := Lib.hid (pdisk_law.below hD hb)
 have h11 : W.cell? ⟨b, 11, none⟩ = some (.map (some P)) := HHW.out.cell rfl
 have HH := Lib.hid h
 have HTD := Lib.hid hd
 have HG := Lib.hid (And.intro hg hF)
 have HN := Lib.hid (And.intro hn htn)
 have hz2 := ct_built0
 have hct : (Tryz.prog.info? 108).map (·.size) = some (#[.int .u8 0, .slice none 0 0] : Array Value).size := ct_size
 have hone : (#[.int .u8 0, .slice none 0 0] : Array Value).all (·.oneCell') = true := by simp [Value.oneCell']
 have hlk := HHW.out.pend.look_ok (K := peM) (i64_ok hn)
 cases hf : fP n with
 | some c =>
  obtain ⟨x, hx1, hx2, hx3, hx4⟩ := HHW.out.hpend n c hf
  have HRE : Hid (Pp.readE s F n = (x.kind, x.body, 0)) := by unfold Hid Pp.readE; rw [find_mem h.sound.rise hx1 hx2]; simp only [hx3, if_true]
  obtain ⟨kd, ⟨a1, a2, a3⟩⟩ := c
  rw [hf] at hlk
  change (Instr.lookup 74 (.map (some P)) (.int .i64 n) true).run Tryz.prog W = .ok (.tuple #[.agg #[.int .u8 (kd : Nat), .slice a1 a2 a3], .bool true]) W at hlk
  obtain ⟨x', hx1', hx2', hx3', hx4'⟩ := h.hpend n _ hf
  have ex : x' = x := Pp.rising_inj h.sound.rise hx1' hx1 (by omega)
  subst ex
  have HI0 := Lib.hid hx4'
  have HX0 : Hid (Rw (W.alloc (.cells #[.int .u8 (kd : Nat), .slice a1 a2 a3] 108)) w.heap.size 108 #[.int .u8 0, .slice none 0 0]) := HW0.out.old _
  have HXB : Hid (Below w.heap.size w (W.alloc (.cells #[.int .u8 (kd : Nat), .slice a1 a2 a3] 108))) := HBW.out.alloc HBW.out.size _
  have HXW : Hid (Turned (fun q => q = w.heap.size) W (W.alloc (.cells #[.int .u8 (kd : Nat), .slice a1 a2 a3] 108))) := (Turned.refl _ _).alloc _
  have hct2 : (Tryz.prog.info? 108).map (·.size) = some (#[.int .u8 (kd : Nat), .slice a1 a2 a3] : Array Value).size := ct_size
  have hone2 : (#[.int .u8 (kd : Nat), .slice a1 a2 a3] : Array Value).all (·.oneCell') = true := by simp [Value.oneCell']
  have hsz2 : (#[.int .u8 0, .slice none 0 0] : Array Value).size = (#[.int .u8 (kd : Nat), .slice a1 a2 a3] : Array Value).size := rfl
  clear h hD hd hg hF htn hn hb hf hx1 hx2 hx3 hx4 hct hone hz2 hx1' hx2' hx3' hx4'
  go_enter Tryz.func75, Tryz.ntmps75
  go_wp2_with ((with_reducible refine gate_store 108 ?_); refine wpList_store_row rfl 108 _ _ rfl w.heap.size #[.int .u8 (kd : Nat), .slice a1 a2 a3] rfl rfl 108 #[.int .u8 0, .slice none 0 0] HX0.out hct2 hsz2 hone2 ?_)
  have HR2 := Lib.hid (And.intro (Rw.row HX0.out #[.int .u8 (kd : Nat), .slice a1 a2 a3]) (below_setRow HXB.out (Nat.le_refl w.heap.size) #[.int .u8 (kd : Nat), .slice a1 a2 a3]))
  generalize (W.alloc (.cells #[.int .u8 (kd : Nat), .slice a1 a2 a3] 108)).setRow w.heap.size #[.int .u8 (kd : Nat), .slice a1 a2 a3] = X2 at *
  try go_wp2
  refine bodyPost_ret (v := .tuple #[.agg #[.int .u8 (kd : Nat), .slice a1 a2 a3], .int .i64 0]) (results_ct rfl _ _ w.heap.size #[.int .u8 (kd : Nat), .slice a1 a2 a3] (.int .i64 0) _ rfl rfl rfl HR2.out.1) rfl ?_
  exact IsFound.ok HH.out HR2.out.2 HI0.out HRE.out rfl
 | none =>
  rw [hf] at hlk
  change (Instr.lookup 74 (.map (some P)) (.int .i64 n) true).run Tryz.prog W = .ok (.tuple #[.agg #[.int .u8 0, .slice none 0 0], .bool false]) W at hlk
  obtain ⟨X, hX⟩ : ∃ X, W.alloc (.cells #[.int .u8 0, .slice none 0 0] 108) = X := ⟨_, rfl⟩
  have HXE := Lib.hid hX
  have hXB : Below w.heap.size w X := by rw [← hX]; exact HBW.out.alloc HBW.out.size _
  have HXB := Lib.hid hXB
  have HX0 : Hid (Rw X w.heap.size 108 #[.int .u8 0, .slice none 0 0]) := by unfold Hid; rw [← hX]; exact HW0.out.old _
  have HHX := Lib.hid (h.below hXB)
  have HDX := Lib.hid (pdisk_law.below hD hXB)
  have CH := Lib.hid (pyhas_any HHX.out.used n hn)
  have hX9 : (W.alloc (.cells #[.int .u8 0, .slice none 0 0] 108)).cell? ⟨b, 9, none⟩ = some (.map (some U)) := by rw [HXE.out]; exact HHX.out.cell rfl
  have h9 : W.cell? ⟨b, 9, none⟩ = some (.map (some U)) := HHW.out.cell rfl
  have HPN : Hid (∀ x ∈ s.l, (x.n : Int) = n → x.state ≠ 2) := fun x hx he h2 => by
   have := h.there x hx h2
   rw [he, hf] at this
   cases this
  have hU := Pp.usedF_some (l := s.l) (k := n)
  obtain ⟨u, hu⟩ : ∃ u, (Pp.usedF s.l n).isSome = u := ⟨_, rfl⟩
  rw [hu] at CH hU
  have HU := Lib.hid hU
  clear h hD hd hg hF htn hn hb hf hX hXB hu hU
  cases u with
  | false =>
   have HRE : Hid (Pp.readE s F n = (0, [], 7)) := by
    unfold Hid Pp.readE
    rw [find_none (fun x hx he => by have := HU.out.2 ⟨x, hx, he, HPN.out x hx he⟩; cases this)]
   go_enter Tryz.func75, Tryz.ntmps75
   go_wp2_with fail
   rw [HXE.out]
   refine CH.out.mono ?_
   rintro e w1 ⟨rfl, b1⟩
   have HW1 : Hid (Rw w1 w.heap.size 108 #[.int .u8 0, .slice none 0 0]) := HX0.out.below b1 HX0.out.lt
   have HB1 := Lib.hid (HXB.out.trans (b1.mono HXB.out.size))
   clear CH b1 hX9 h9 h11 hlk hW
   go_wp2_with (first
    | ((with_reducible refine gate_build 108 ?_); refine wpList_build_atT rfl _ _ rfl _ hz2 ?_)
    | ((with_reducible refine gate_store 108 ?_); refine wpList_store_row rfl 108 _ _ rfl w.heap.size #[.int .u8 0, .slice none 0 0] rfl rfl 108 #[.int .u8 0, .slice none 0 0] HW1.out hct rfl hone ?_))
   have HR2 := Lib.hid (And.intro (Rw.row HW1.out #[.int .u8 0, .slice none 0 0]) (below_setRow HB1.out (Nat.le_refl w.heap.size) #[.int .u8 0, .slice none 0 0]))
   generalize w1.setRow w.heap.size #[.int .u8 0, .slice none 0 0] = X2 at *
   try go_wp2
   refine bodyPost_ret (v := .tuple #[.agg #[.int .u8 0, .slice none 0 0], .int .i64 7]) (results_ct rfl _ _ w.heap.size #[.int .u8 0, .slice none 0 0] (.int .i64 7) _ rfl rfl rfl HR2.out.1) rfl ?_
   exact IsFound.bad HH.out HRE.out (by decide) rfl HR2.out.2
  | true =>
   obtain ⟨x, hx1, hx2, hx3⟩ := HU.out.1 rfl
   obtain ⟨m, rfl⟩ : ∃ m : Nat, n = (m : Int) := ⟨x.n, hx2.symm⟩
   have HRE : Hid (Pp.readE s F (m : Int) = Pp.rdE F m) := by
    unfold Hid Pp.readE
    rw [find_mem HH.out.sound.rise hx1 hx2]
    simp only [if_neg hx3]
    rw [show x.n = m by omega]
   have HXX : Hid (∃ x ∈ s.l, x.n = m ∧ x.state ≠ 2) := ⟨x, hx1, by omega, hx3⟩
   clear hx1 hx2 hx3
   go_enter Tryz.func75, Tryz.ntmps75
   go_wp2_with fail
   rw [HXE.out]
   refine CH.out.mono ?_
   rintro e w1 ⟨rfl, b1⟩
   have HW1 : Hid (Rw w1 w.heap.size 108 #[.int .u8 0, .slice none 0 0]) := HX0.out.below b1 HX0.out.lt
   have HB1 := Lib.hid (HXB.out.trans (b1.mono HXB.out.size))
   have HH1 := Lib.hid (HHX.out.below b1)
   have HD1 := Lib.hid (pdisk_law.below HDX.out b1)
   have h0 : w1.cell? ⟨b, 0, none⟩ = some (.pointer (some ⟨bf, 0, none⟩)) := HH1.out.cell rfl
   have CD := Lib.hid (pdead_any HD1.out)
   rw [HTD.out] at CD
   clear CH b1 hX9 h9 h11 hlk hW
   go_wp2_with fail
   refine CD.out.mono ?_
   rintro e w2 ⟨rfl, b2⟩
   have HW2 : Hid (Rw w2 w.heap.size 108 #[.int .u8 0, .slice none 0 0]) := HW1.out.below b2 HW1.out.lt
   have HB2 := Lib.hid (HB1.out.trans (b2.mono HB1.out.size))
   have HH2 := Lib.hid (HH1.out.below b2)
   have HD2 := Lib.hid (pdisk_law.below HD1.out b2)
   have CF := Lib.hid (pycfind_any HH2.out.head HH2.out.hand HH2.out.sb.2.2.2 HH2.out.small_hand HH2.out.few HH2.out.sound.cache (fun k c hc => (HH2.out.hhand k c hc).2.1) (by have := HH2.out.last; have := HN.out; omega) (m : Int) HN.out.1)
   clear CD b2 h0
   go_wp2_with fail
   refine CF.out.mono ?_
   rintro e w3 (⟨hfn, rfl, b3⟩ | ⟨c, hfc, rfl, hkp⟩)
   ·obtain ⟨Y, hY⟩ : ∃ Y, w3.alloc (.cells #[.int .u8 0, .slice none 0 0] 108) = Y := ⟨_, rfl⟩
    have hYB : Below w2.heap.size w2 Y := by rw [← hY]; exact b3.alloc b3.size _
    have HYB := Lib.hid (HB2.out.trans (hYB.mono HB2.out.size))
    have HWY : Hid (Rw Y w.heap.size 108 #[.int .u8 0, .slice none 0 0]) := HW2.out.below hYB HW2.out.lt
    have CT := Lib.hid (pyfetch_any (HH2.out.below hYB) (pdisk_law.below HD2.out hYB) HTD.out k HG.out.1 HG.out.2 HN.out.2 m HXX.out)
    have HYE := Lib.hid hY
    clear hYB CF hfn b3 hY hz2
    go_wp2_with fail
    rw [HYE.out]
    refine CT.out.mono ?_
    rintro e w4 ⟨⟨kd, ⟨a1, a2, a3⟩⟩, fp', rfl, hI, hI2, hP, hNx, hT4⟩
    have HR4 := Lib.hid (And.intro hI (And.intro hI2 (And.intro hP (And.intro hNx hT4))))
    have HW4 : Hid (Rw w4 w.heap.size 108 #[.int .u8 0, .slice none 0 0]) := (hT4.block _ HWY.out.lt (fun hm => by have := HH.out.lt _ (.inl hm); omega)).trans HWY.out
    have hct2 : (Tryz.prog.info? 108).map (·.size) = some (#[.int .u8 (kd : Nat), .slice a1 a2 a3] : Array Value).size := ct_size
    have hone2 : (#[.int .u8 (kd : Nat), .slice a1 a2 a3] : Array Value).all (·.oneCell') = true := by simp [Value.oneCell']
    have hsz2 : (#[.int .u8 0, .slice none 0 0] : Array Value).size = (#[.int .u8 (kd : Nat), .slice a1 a2 a3] : Array Value).size := rfl
    obtain ⟨er, her⟩ : ∃ er, (Pp.rdE F m).2.2 = er := ⟨_, rfl⟩
    have HER := Lib.hid her
    rw [her]
    clear hI hI2 hP hNx hT4 CT hct hone her
    simp only [uV, slV]
    go_wp2_with ((with_reducible refine gate_store 108 ?_); refine wpList_store_row rfl 108 _ _ rfl w.heap.size #[.int .u8 (kd : Nat), .slice a1 a2 a3] rfl rfl 108 #[.int .u8 0, .slice none 0 0] HW4.out hct2 hsz2 hone2 ?_)
    have HR2 := Lib.hid (Rw.row HW4.out #[.int .u8 (kd : Nat), .slice a1 a2 a3])
    have HX2 : Hid (Turned (fun q => q = w.heap.size) w4 (w4.setRow w.heap.size #[.int .u8 (kd : Nat), .slice a1 a2 a3])) := (Turned.refl (fun q => q = w.heap.size) w4).setRow (fun _ => rfl) _
    generalize w4.setRow w.heap.size #[.int .u8 (kd : Nat), .slice a1 a2 a3] = X2 at *
    try go_wp2
    refine bodyPost_ret (v := .tuple #[.agg #[.int .u8 (kd : Nat), .slice a1 a2 a3], .int .i64 (er : Nat)]) (results_ct rfl _ _ w.heap.size #[.int .u8 (kd : Nat), .slice a1 a2 a3] (.int .i64 (er : Nat)) _ rfl rfl rfl HR2.out) rfl ?_
    rw [HRE.out, ← HER.out]
    exact IsFound.stored HH.out.lt HYB.out HWY.out.lt HR4.out.1 HR4.out.2.1 HR4.out.2.2.1 HR4.out.2.2.2.1 HR4.out.2.2.2.2 HX2.out
   ·obtain ⟨_, _, kd0, bd0, hin, hrd⟩ := HH2.out.hhand _ c hfc
    obtain ⟨⟨kd, ⟨a1, a2, a3⟩⟩, tn⟩ := c
    obtain ⟨fN, hN1⟩ := PyHas.kept HH2.out hkp fp.R (fun _ h => h) (fun q hq => ⟨(HH2.out.r q hq).1, by obtain ⟨_, _, _, _, _, hT⟩ := hkp; exact Nat.lt_of_lt_of_le (HH2.out.r q hq).2 hT.size⟩)
     (by obtain ⟨x, h1, h2, h3⟩ := HXX.out; exact ⟨x, h1, by rw [h2], h3⟩) (by obtain ⟨_, _, _, _, _, hT⟩ := hkp; exact hin.turned hT (fun q hq he => by
      have := (HH2.out.r q hq).1
      rcases he with rfl | rfl
      ·exact this HH2.out.ms.1
      ·exact this HH2.out.ms.2.2.2.2)) hrd
    obtain ⟨_, _, _, _, _, hT⟩ := hkp
    have hin3 : InB w3 fp.R ⟨kd, ⟨a1, a2, a3⟩⟩ kd0 bd0 := hin.turned hT (fun q hq he => by
      have := (HH2.out.r q hq).1
      rcases he with rfl | rfl
      ·exact this HH2.out.ms.1
      ·exact this HH2.out.ms.2.2.2.2)
    have HT3 : Hid (Turned fp.M w2 w3) := hT.mono (fun q _ h => by rcases h with rfl | rfl; exact HH2.out.ms.1; exact HH2.out.ms.2.2.2.2)
    have hbl := HH.out.lts
    have HW3 : Hid (Rw w3 w.heap.size 108 #[.int .u8 0, .slice none 0 0]) := (hT.block _ HW2.out.lt (fun h => by omega)).trans HW2.out
    obtain ⟨Y, hY⟩ : ∃ Y, w3.alloc (.cells #[.int .u8 (kd : Nat), .slice a1 a2 a3] 108) = Y := ⟨_, rfl⟩
    have HW4 : Hid (Rw (w3.alloc (.cells #[.int .u8 (kd : Nat), .slice a1 a2 a3] 108)) w.heap.size 108 #[.int .u8 0, .slice none 0 0]) := HW3.out.old _
    have HWY : Hid (Rw Y w.heap.size 108 #[.int .u8 0, .slice none 0 0]) := by unfold Hid; rw [← hY]; exact HW4.out
    have hTY : Turned (fun _ => False) w3 Y := by rw [← hY]; exact (Turned.refl _ _).alloc _
    have HIN := Lib.hid (hin3.turned hTY (fun _ _ h => h))
    have HPY := Lib.hid (hN1.turned hTY (fun _ h => h.elim))
    have HTY : Hid (Turned fp.M w2 Y) := HT3.out.trans hTY (fun _ _ h => h.elim)
    have HRD := Lib.hid hrd
    have HYE := Lib.hid hY
    have hct2 : (Tryz.prog.info? 108).map (·.size) = some (#[.int .u8 (kd : Nat), .slice a1 a2 a3] : Array Value).size := ct_size
    have hone2 : (#[.int .u8 (kd : Nat), .slice a1 a2 a3] : Array Value).all (·.oneCell') = true := by simp [Value.oneCell']
    have hsz2 : (#[.int .u8 0, .slice none 0 0] : Array Value).size = (#[.int .u8 (kd : Nat), .slice a1 a2 a3] : Array Value).size := rfl
    clear hfc hin hrd hN1 hT hin3 hbl hTY hY CF hct hone hz2
    simp only [uV, slV]
    go_wp2_with ((with_reducible refine gate_store 108 ?_); refine wpList_store_row rfl 108 _ _ rfl w.heap.size #[.int .u8 (kd : Nat), .slice a1 a2 a3] rfl rfl 108 #[.int .u8 0, .slice none 0 0] HW4.out hct2 hsz2 hone2 ?_)
    rw [HYE.out]
    have HR2 := Lib.hid (Rw.row HWY.out #[.int .u8 (kd : Nat), .slice a1 a2 a3])
    have HX2 : Hid (Turned (fun q => q = w.heap.size) Y (Y.setRow w.heap.size #[.int .u8 (kd : Nat), .slice a1 a2 a3])) := (Turned.refl (fun q => q = w.heap.size) Y).setRow (fun _ => rfl) _
    generalize Y.setRow w.heap.size #[.int .u8 (kd : Nat), .slice a1 a2 a3] = X2 at *
    try go_wp2
    refine bodyPost_ret (v := .tuple #[.agg #[.int .u8 (kd : Nat), .slice a1 a2 a3], .int .i64 0]) (results_ct rfl _ _ w.heap.size #[.int .u8 (kd : Nat), .slice a1 a2 a3] (.int .i64 0) _ rfl rfl rfl HR2.out) rfl ?_
    have hrm : Pp.rdE F m = (kd0, bd0, 0) := by have := HRD.out; rwa [Int.toNat_natCast] at this
    rw [HRE.out, hrm]
    exact IsFound.stored (r := (kd0, bd0, 0)) (u := ⟨kd, ⟨a1, a2, a3⟩⟩) (fp' := ⟨fp.M, fp.R⟩) HH.out.lt HB2.out HW2.out.lt (fun _ => HIN.out) (fun h => absurd rfl h) ⟨_, _, _, _, _, _, _, _, HPY.out⟩ ⟨fun _ h => .inl h, fun _ h => .inl h⟩ HTY.out HX2.out
end
end Go.Proofs.YtiafeniflkikeaaGreat
namespace Go.Proofs.YtiafeniflkikeaaGreat
open Go.RowKit
set_option linter.unusedVariables false
section
variable {w w' : World} {f fp fd : Fp} {s : Pp.S} {F : List Nat} {b bf U D P H last frm : Nat} {fP : Int → Option RawU} {fH : Int → Option RawH} {t : Sf.St}
theorem Pp.readE_bad (s : Pp.S) (F : List Nat) (n : Int) (h : (Pp.readE s F n).2.2 ≠ 0) : (Pp.readE s F n).1 = 0 ∧ (Pp.readE s F n).2.1 = [] := by
 unfold Pp.readE at h ⊢
 split
 ·exact ⟨rfl, rfl⟩
 ·rename_i x hx
  split
  ·rename_i h2; simp [hx, h2] at h
  ·rename_i h2
   simp only [hx, if_neg h2] at h
   unfold Pp.rdE at h ⊢
   split
   ·exact ⟨rfl, rfl⟩
   ·split
    ·exact ⟨rfl, rfl⟩
    ·rename_i h3 h4
     rw [if_neg h3, if_neg h4] at h
     exact Pg.getE_bad (n := x.n) (b := Pp.pageOf F x.n) (k := (Pg.getE x.n (Pp.pageOf F x.n)).1) (c := (Pg.getE x.n (Pp.pageOf F x.n)).2.1) rfl h
set_option maxHeartbeats 4000000 in
set_option maxRecDepth 100000 in
theorem ppread_any (n : Int) (k : Nat) (h : PPager w f s F b bf) (hD : PDisk w fd t bf) (hn : I64 n) (hd : t.dead = false) (hg : Sf.get t s.name = (k, 0)) (hF : Sf.now (Sf.fileAt t k) = F) (htn : s.turns ≤ 1099511627776) :
 Calls Tryz.prog 28 #[.pointer (some ⟨b, 0, none⟩), .int .i64 n] w (fun e w' => (∃ A c, e = .returned (.tuple #[.int .u8 ((Pp.readE s F n).1 : Nat), .slice A (Pp.readE s F n).2.1.length c, .int .i64 ((Pp.readE s F n).2.2 : Nat)]) ∧ OwnL yK w' w.heap.size (.slice A (Pp.readE s F n).2.1.length c) (Pp.readE s F n).2.1 ∧ ∃ f', PPager w' f' { s with turns := s.turns + 1 } F b bf ∧ f.Next f' w.heap.size ∧ Turned f.M w w' ∧ f'.Off (fun q => (Value.slice A (Pp.readE s F n).2.1.length c).ownBlock = some q))) := by
 obtain ⟨U, D, P, H, last, frm, fP, fH, h⟩ := h
 have h0 : w.cell? ⟨b, 0, none⟩ = some (.pointer (some ⟨bf, 0, none⟩)) := h.cell rfl
 have CM := Lib.hid (pymade_any h0)
 have CF := Lib.hid (pyfind_any h hD hd k hg hF (by omega) n hn)
 have HBAD := Lib.hid (Pp.readE_bad s F n)
 obtain ⟨kd, bd, er, hr⟩ : ∃ kd bd er, Pp.readE s F n = (kd, bd, er) := ⟨_, _, _, rfl⟩
 rw [hr] at CF HBAD ⊢
 have HL := Lib.hid h.lt
 clear h hD hd hg hF htn hn h0 hr
 go_enter Tryz.func28, Tryz.ntmps28
 go_wp2_with fail
 refine CM.out.mono ?_
 rintro e w1 ⟨rfl, rfl⟩
 clear CM
 go_wp2_with fail
 refine CF.out.mono ?_
 rintro e w2 ⟨⟨ku, ⟨a1, a2, a3⟩⟩, f2, rfl, hI, hI2, hP, hN, hT⟩
 have HP := Lib.hid hP
 have HN := Lib.hid hN
 have HT := Lib.hid hT
 have HI := Lib.hid hI
 simp only [uV, slV]
 clear hI hI2 hP hN hT CF
 by_cases he : er = 0
 ·subst he
  have HIN := Lib.hid (HI.out rfl)
  have hku := HIN.out.ek
  simp only at hku
  subst hku
  obtain ⟨Y0, hY0⟩ : ∃ Y, w2.alloc (.cells #[.int .u8 (ku : Nat), .slice a1 a2 a3] 108) = Y := ⟨_, rfl⟩
  obtain ⟨Y, hY⟩ : ∃ Y, Y0.drew = Y := ⟨_, rfl⟩
  have HYR : Hid (Rw Y w2.heap.size 108 #[.int .u8 (ku : Nat), .slice a1 a2 a3]) := by unfold Hid; rw [← hY, ← hY0]; exact Rw.new w2 _ _
  have HYB : Hid (Below w2.heap.size w2 Y) := by unfold Hid; rw [← hY, ← hY0]; exact below_drewN ((Below.refl _ _).alloc (Nat.le_refl _) _) 1
  have hlv : Lv yK Y w2.heap.size (.slice a1 a2 a3) bd := HIN.out.lv.below_ HYB.out (Nat.le_refl _)
  have CC := Lib.hid (pbclone_any _ _ w2.heap.size Y hlv HYB.out.size (by have h : bd.length ≤ 496 := HIN.out.len; omega))
  have HC : Hid (∀ w', Below Y.heap.size Y w' → w'.cell? ⟨w2.heap.size, 0, none⟩ = some (.int .u8 (ku : Nat)) ∧ w'.cell? ⟨w2.heap.size, 1, none⟩ = some (.slice a1 a2 a3)) := fun w' hw => ⟨(HYR.out.below hw HYR.out.lt).cell 0, (HYR.out.below hw HYR.out.lt).cell 1⟩
  clear hlv
  go_wp2_with fail
  try rw [hY0]
  refine wp_region_m (fun w' => Below Y.heap.size Y w') 8 (by kernel_rfl) ?_
  rw [hY]
  have hH : Below Y.heap.size Y Y := Below.refl _ _
  refine zM (i := 0) (v := ?_) rfl (by kernel_rfl) (fun _ _ _ h => h) hH (Or.inl ⟨by rfl, (by intro w' hSw; obtain ⟨s0, s1⟩ := HC.out w' hSw; go_simp; first | done | with_reducible rfl)⟩) ?_
  try simp only [Act.put, zA, zC, zD, zE, zF]
  refine zM (i := 1) (v := ?_) rfl (by kernel_rfl) (fun _ _ _ h => h) hH (Or.inl ⟨by rfl, (by intro w' hSw; obtain ⟨s0, s1⟩ := HC.out w' hSw; go_simp; first | done | with_reducible rfl)⟩) ?_
  try simp only [Act.put, zA, zB, zC, zD, zE, zF]
  refine zM (i := 2) (v := ?_) rfl (by kernel_rfl) (fun _ _ _ h => h) hH (Or.inl ⟨by rfl, (by intro w' hSw; obtain ⟨s0, s1⟩ := HC.out w' hSw; go_simp; first | done | with_reducible rfl)⟩) ?_
  try simp only [Act.put, zA, zB, zC, zD, zE, zF]
  refine zM (i := 3) (v := ?_) rfl (by kernel_rfl) (fun _ _ _ h => h) hH (Or.inl ⟨by rfl, (by intro w' hSw; obtain ⟨s0, s1⟩ := HC.out w' hSw; go_simp; first | done | with_reducible rfl)⟩) ?_
  try simp only [Act.put, zA, zB, zC, zD, zE, zF]
  refine wpAnyM_next (i := 4) (by kernel_rfl) rfl (fun K hK => ?_)
  go_simp
  refine CC.out.mono ?_
  rintro e w3 ⟨A, c, rfl, ho, b3⟩
  refine hK.out _ _ (.inr b3) ?_
  clear hK K CC
  try simp only [Act.put, zA, zB, zC, zD, zE, zF]
  refine zM (i := 5) (v := ?_) rfl (by kernel_rfl) (fun _ _ _ h => h) b3 (Or.inl ⟨by rfl, (by intro w' hSw; skip; go_simp; first | done | with_reducible rfl)⟩) ?_
  try simp only [Act.put, zA, zB, zC, zD, zE, zF]
  refine zM (i := 6) (v := ?_) rfl (by kernel_rfl) (fun _ _ _ h => h) b3 (Or.inl ⟨by rfl, (by intro w' hSw; skip; go_simp; first | done | with_reducible rfl)⟩) ?_
  try simp only [Act.put, zA, zB, zC, zD, zE, zF]
  refine zM (i := 7) (v := ?_) rfl (by kernel_rfl) (fun _ _ _ h => h) b3 (Or.inl ⟨by rfl, (by intro w' hSw; skip; go_simp; first | done | with_reducible rfl)⟩) ?_
  try simp only [Act.put, zA, zB, zC, zD, zE, zF]
  refine wpAnyM_done (by kernel_rfl) ?_ _
  have HO := Lib.hid ho
  have HB3 := Lib.hid b3
  clear hH ho b3 hY hY0
  have hs2 := HT.out.size
  have hsY := HYB.out.size
  have hlp := ppager_lt HP.out
  have HB23 : Hid (Below w2.heap.size w2 w3) := HYB.out.trans (HB3.out.mono hsY)
  have HRES : Hid (OwnL yK w3 w.heap.size (.slice A bd.length c) bd ∧ ∃ f', PPager w3 f' { s with turns := s.turns + 1 } F b bf ∧ f.Next f' w.heap.size ∧ Turned f.M w w3 ∧ f'.Off (fun q => (Value.slice A bd.length c).ownBlock = some q)) :=
   ⟨HO.out.mono_ (by omega), f2, ppager_turned HP.out (Turned.of_below HB23.out) (hlp.off fun _ h => h), HN.out, HT.out.trans ((Turned.of_below HB23.out).mono (G := f.M) (fun q hq h => absurd hq (by omega))) (fun _ _ h => h), hlp.off (fun q hq => by have := (OwnL.lt_ HO.out q hq).1; omega)⟩
  clear hs2 hsY hlp
  go_wp2
  go_ret3

  exact ⟨A, c, rfl, HRES.out⟩
 ·have hb : ku = ku ∧ kd = 0 ∧ bd = [] := ⟨rfl, HBAD.out he⟩
  obtain ⟨-, rfl, rfl⟩ := hb
  have HB2 := Lib.hid ((Below.refl w2.heap.size w2).alloc (Nat.le_refl _) (.cells #[.int .u8 (ku : Nat), .slice a1 a2 a3] 108))
  have hs2 := HT.out.size
  have hlp := ppager_lt HP.out
  have HRES : Hid (∃ f', PPager (w2.alloc (.cells #[.int .u8 (ku : Nat), .slice a1 a2 a3] 108)) f' { s with turns := s.turns + 1 } F b bf ∧ f.Next f' w.heap.size ∧ Turned f.M w (w2.alloc (.cells #[.int .u8 (ku : Nat), .slice a1 a2 a3] 108)) ∧ f'.Off (fun q => (Value.slice none 0 0).ownBlock = some q)) :=
   ⟨f2, ppager_turned HP.out (Turned.of_below HB2.out) (hlp.off fun _ h => h), HN.out, HT.out.trans ((Turned.of_below HB2.out).mono (G := f.M) (fun q hq h => absurd hq (by omega))) (fun _ _ h => h), fun q hq => by cases hq⟩
  clear hs2 hlp
  have hne : ((er : Int) == 0) = false := by rw [beq_eq_false_iff_ne]; omega
  go_wp2
  go_ret3

  exact ⟨none, 0, rfl, OwnL.nil_ _ _ _, HRES.out⟩
end
end Go.Proofs.YtiafeniflkikeaaGreat
namespace Go.Proofs.YtiafeniflkikeaaGreat.Pp
structure Goes (s : S) (F : List Nat) (m : Pa.M) : Prop where
 root : s.root = m.root
 l : s.l.map bare = m.l.map bare
 ok : Pa.Ok m
 size : m.size = F.length
 page : ∀ x ∈ m.l, x.state ≠ 2 → rdE F x.n = (x.kind, x.body, 0)
 less : ∀ x ∈ m.l, x.state ≠ 2 → (x.n : Int) < m.root.pages
 told : told F = (m.root, 0)
theorem bare_n (x : Pa.Page) : (bare x).n = x.n := by unfold bare; split <;> rfl
theorem bare_state (x : Pa.Page) : (bare x).state = x.state := by unfold bare; split <;> rfl
theorem bare_pend {x : Pa.Page} (h : x.state = 2) : bare x = x := if_pos h
theorem bare_held {x : Pa.Page} (h : x.state ≠ 2) : bare x = { x with kind := 0, body := [] } := if_neg h
theorem at_eq {l l' : List Pa.Page} (h : l.map bare = l'.map bare) (i : Nat) : (l[i]?).map bare = (l'[i]?).map bare := by
 have := congrArg (fun z => z[i]?) h
 simpa using this
theorem idx_bare (l : List Pa.Page) (n : Int) : Pa.idx (l.map bare) n = Pa.idx l n := by
 unfold Pa.idx
 induction l with
 | nil => rfl
 | cons x l ih =>
  rw [List.map_cons, List.findIdx?_cons, List.findIdx?_cons, bare_n, ih]
theorem idx_eq {l l' : List Pa.Page} (h : l.map bare = l'.map bare) (n : Int) : Pa.idx l n = Pa.idx l' n := by rw [← idx_bare l, ← idx_bare l', h]
theorem gap_bare (l : List Pa.Page) : ∀ c, Pa.gap (l.map bare) c = Pa.gap l c := by
 induction l with
 | nil => intro c; rfl
 | cons x l ih =>
  intro c
  rw [List.map_cons]
  unfold Pa.gap
  rw [bare_n]
  split
  ·rw [ih]
  ·rfl
theorem gap_eq {l l' : List Pa.Page} (h : l.map bare = l'.map bare) (c : Nat) : Pa.gap l c = Pa.gap l' c := by rw [← gap_bare l, ← gap_bare l', h]
theorem back_bare (l : List Pa.Page) : (Pa.backL l).map bare = (Pa.backL (l.map bare)).map bare := by
 unfold Pa.backL
 rw [List.filter_map, List.map_map, List.map_map, List.map_map]
 have h1 : ((fun x : Pa.Page => decide (x.state ≠ 2)) ∘ bare) = fun x => decide (x.state ≠ 2) := by funext x; simp [bare_state]
 rw [h1]
 refine List.map_congr_left fun x hx => ?_
 have hs : x.state ≠ 2 := by simpa using (List.mem_filter.1 hx).2
 simp [Pa.used, bare, hs]
theorem back_eq {l l' : List Pa.Page} (h : l.map bare = l'.map bare) : (Pa.backL l).map bare = (Pa.backL l').map bare := by rw [back_bare l, back_bare l', h]
theorem kept_bare (l : List Pa.Page) : ((Pa.keep l).map Pa.used).map bare = ((Pa.keep (l.map bare)).map Pa.used).map bare := by
 unfold Pa.keep
 rw [List.filter_map, List.map_map, List.map_map, List.map_map]
 have h1 : ((fun x : Pa.Page => decide (x.state ≠ 3)) ∘ bare) = fun x => decide (x.state ≠ 3) := by funext x; simp [bare_state]
 rw [h1]
 refine List.map_congr_left fun x hx => ?_
 simp only [Function.comp_apply, Pa.used]
 rw [bare_held (by simp), bare_held (by simp)]
 simp [bare_n]
theorem kept_eq {l l' : List Pa.Page} (h : l.map bare = l'.map bare) : ((Pa.keep l).map Pa.used).map bare = ((Pa.keep l').map Pa.used).map bare := by rw [kept_bare l, kept_bare l', h]
theorem pages_bare (l : List Pa.Page) : Pa.pages (l.map bare) = Pa.pages l := by
 unfold Pa.pages
 rw [List.foldl_map]
 congr 1
 funext p x
 rw [bare_state, bare_n]
theorem sizeL_bare (s : Nat) (l : List Pa.Page) : Pa.sizeL s (l.map bare) = Pa.sizeL s l := by
 unfold Pa.sizeL
 rw [List.foldl_map]
 congr 1
 funext p x
 rw [bare_state, bare_n]
theorem there_bare (l : List Pa.Page) (p : Int) : Pa.there (l.map bare) p = Pa.there l p := by
 unfold Pa.there Pa.keep
 rw [List.filter_map, List.any_map]
 have h1 : ((fun x : Pa.Page => decide (x.state ≠ 3)) ∘ bare) = fun x => decide (x.state ≠ 3) := by funext x; simp [bare_state]
 have h2 : ((fun x : Pa.Page => decide ((x.n : Int) = p)) ∘ bare) = fun x => decide ((x.n : Int) = p) := by funext x; simp [bare_n]
 rw [h1, h2]
theorem commit_eq {s : S} {F : List Nat} {m : Pa.M} (h : Goes s F m) (r : Rt.Root) (free : Int) :
  (Pa.commit (asM s F) r free).2 = (Pa.commit m r free).2 ∧ Pa.rootOf (asM s F) r = Pa.rootOf m r := by
 have e1 : Pa.pages s.l = Pa.pages m.l := by rw [← pages_bare s.l, ← pages_bare m.l, h.l]
 have e2 : ∀ z, Pa.sizeL z s.l = Pa.sizeL z m.l := fun z => by rw [← sizeL_bare z s.l, ← sizeL_bare z m.l, h.l]
 have e3 : ∀ p, Pa.there s.l p = Pa.there m.l p := fun p => by rw [← there_bare s.l, ← there_bare m.l, h.l]
 have e4 : Pa.rootOf (asM s F) r = Pa.rootOf m r := by unfold Pa.rootOf asM; simp only; rw [e1, h.root]
 refine ⟨?_, e4⟩
 have h0 : ∀ (mm : Pa.M), Pa.commit mm r free = if Pa.there mm.l r.page = false ∨ ¬ Rt.May (Pa.rootOf mm r) then (mm, 2) else if free < (Pa.sizeL mm.size mm.l : Int) - mm.size then (mm, 9) else (⟨Pa.rootOf mm r, (Pa.keep mm.l).map Pa.used, Pa.sizeL mm.size mm.l⟩, 0) := fun _ => rfl
 rw [h0, h0]
 by_cases h1 : Pa.there m.l r.page = false ∨ ¬ Rt.May (Pa.rootOf m r)
 ·rw [if_pos h1, if_pos (by show Pa.there s.l r.page = false ∨ _; rw [e3, e4]; exact h1)]
 ·rw [if_neg h1, if_neg (by show ¬ (Pa.there s.l r.page = false ∨ _); rw [e3, e4]; exact h1)]
  by_cases h2 : free < (Pa.sizeL m.size m.l : Int) - m.size
  ·rw [if_pos h2, if_pos (by show free < (Pa.sizeL F.length s.l : Int) - (F.length : Int); rw [e2, ← h.size]; exact h2)]
  ·rw [if_neg h2, if_neg (by show ¬ free < (Pa.sizeL F.length s.l : Int) - (F.length : Int); rw [e2, ← h.size]; exact h2)]
theorem rising_filter {l : List Pa.Page} (h : Pa.Rising l) (p : Pa.Page → Bool) : Pa.Rising (l.filter p) := List.Pairwise.filter p h
theorem rising_map {l : List Pa.Page} {g : Pa.Page → Pa.Page} (h : Pa.Rising l) (hg : ∀ x, (g x).n = x.n) : Pa.Rising (l.map g) := by
 unfold Pa.Rising at h ⊢
 rw [List.pairwise_map]
 exact h.imp (fun h => by rw [hg, hg]; exact h)
theorem Goes.back {s : S} {F : List Nat} {m : Pa.M} (h : Goes s F m) : Goes { s with l := Pa.backL s.l } F (Pa.back m) := by
 have hmem : ∀ x ∈ Pa.backL m.l, ∃ y ∈ m.l, y.state ≠ 2 ∧ x = Pa.used y := fun x hx => by
  obtain ⟨y, hy, rfl⟩ := List.mem_map.1 hx
  have h1 := List.mem_filter.1 hy
  exact ⟨y, h1.1, by simpa using h1.2, rfl⟩
 refine ⟨h.root, back_eq h.l, ⟨h.ok.root, rising_map (rising_filter h.ok.rise _) (fun _ => rfl), fun x hx => ?_⟩, h.size, fun x hx _ => ?_, fun x hx _ => ?_, h.told⟩
 ·obtain ⟨y, hy, _, rfl⟩ := hmem x hx
  have := h.ok.from2 y hy
  exact ⟨this.1, this.2.1, .inl rfl, this.2.2.2⟩
 ·obtain ⟨y, hy, hs, rfl⟩ := hmem x hx
  exact h.page y hy hs
 ·obtain ⟨y, hy, hs, rfl⟩ := hmem x hx
  exact h.less y hy hs
theorem pages_more {l : List Pa.Page} (hr : Pa.Rising l) (h2 : ∀ x ∈ l, 2 ≤ x.n) : ∀ x ∈ l, x.state ≠ 3 → (x.n : Int) < Pa.pages l := by
 have gen : ∀ (l : List Pa.Page) (p : Int), Pa.Rising l → (∀ x ∈ l, p ≤ (x.n : Int) + 1) → p ≤ l.foldl (fun p x => if x.state = 3 then p else (x.n : Int) + 1) p ∧ ∀ x ∈ l, x.state ≠ 3 → (x.n : Int) < l.foldl (fun p x => if x.state = 3 then p else (x.n : Int) + 1) p := by
  intro l
  induction l with
  | nil => intro p _ _; exact ⟨Int.le_refl _, fun x hx => by cases hx⟩
  | cons y l ih =>
   intro p hr hp
   rw [List.foldl_cons]
   have hr' := List.pairwise_cons.1 hr
   have hy := hp y (by simp)
   have hq : ∀ x ∈ l, (if y.state = 3 then p else (y.n : Int) + 1) ≤ (x.n : Int) + 1 := fun x hx => by
    split
    ·exact hp x (by simp [hx])
    ·have := hr'.1 x hx; omega
   obtain ⟨h1, h2⟩ := ih _ hr'.2 hq
   refine ⟨?_, fun x hx hs => ?_⟩
   ·refine Int.le_trans ?_ h1
    split <;> omega
   ·rcases List.mem_cons.1 hx with rfl | hx
    ·rw [if_neg hs] at h1 ⊢
     omega
    ·exact h2 x hx hs
 exact (gen l 2 hr (fun x hx => by have := h2 x hx; omega)).2
end Go.Proofs.YtiafeniflkikeaaGreat.Pp
