/-
  QueuePlays: whatever is pushed, popped and looked at, each answer is the document's. Bound: the argument's deeds, all told, are at most 1048576.
-/
import Derived.Test.YtiogmgpkaiicpaaFrameI
import Derived.Test.YtiogmgpkaiicpaaBulkL
import Derived.Test.YtiogmgpkaiicpaaQuLaw
import Derived.Test.YtiogmgpkaiicpaaRQu
import Derived.Test.YtiogmgpkaiicpaaKOp
namespace Go.Proofs.Ytiogmgpkaiicpaa.queuePlays
open Go.ChangeShapes Go.WideShapes Go.ChangeAt Go.RowKit
open Go.ChangeMaps (open_string shut_string)
set_option linter.unusedVariables false

set_option maxHeartbeats 1600000 in
set_option maxRecDepth 100000 in
theorem walk (w : World) (a0 : Int) (w0 : (Lit.int .i64 a0).wf = true) (v1 : Value) (l1 : List (Nat × Int)) (h1 : Lv oK w w.heap.size v1 l1) (hk : l1.length ≤ 1048576) :
    Calls Try.prog 3 #[.int .i64 a0, v1] w (IsBool true w) := by
  have hi := i64_wf w0
  have HI := Lib.hid hi
  have hcell : (w.alloc (.cells #[.int .i64 a0] 3)).cell? ⟨w.heap.size, 0, none⟩ = some (.int .i64 a0) := by rw [cell_of_row _ _ 0 _ _ _ (heap_alloc_new w _)]; rfl
  obtain ⟨g, hg⟩ : ∃ g, w.heap.size = g := ⟨_, rfl⟩
  obtain ⟨W0, hW0⟩ : ∃ W, w.alloc (.cells #[.int .i64 a0] 3) = W := ⟨_, rfl⟩
  have hgW : W0.heap.size = g + 1 := by rw [← hW0, ← hg]; simp
  rw [hg, hW0] at hcell
  have HCELL := Lib.hid hcell
  have HGW := Lib.hid hgW
  have HGE := Lib.hid hg
  clear hcell hgW hi
  have HK := Lib.hid hk
  clear w0
  have b0 := (Below.refl w.heap.size w).alloc (Nat.le_refl _) (.cells #[.int .i64 a0] 3)
  rw [hW0] at b0
  have HBW := Lib.hid b0
  have FO := Lib.hid ((h1.below_ b0 (Nat.le_refl _)).mono_ b0.size)
  obtain ⟨A, c, rfl, hc1, hc2, _⟩ := h1
  have hl1 : l1.length ≤ 9223372036854775807 := by omega
  clear hc1 hc2 b0 hk
  have hn := pnewI 11 #[.pointer (some ⟨g, 0, none⟩)] (Qu.ltR a0) W0
  change Calls Try.prog _ #[.func (.func 11) #[] #[.pointer (some ⟨g, 0, none⟩)]] _ _ at hn
  have HN := Lib.hid hn
  obtain ⟨fn, hfn⟩ : ∃ fn, fn = 11 := ⟨_, rfl⟩
  obtain ⟨caps, hcaps⟩ : ∃ caps : Array Value, caps = #[.pointer (some ⟨g, 0, none⟩)] := ⟨_, rfl⟩
  have HLS : Hid (∀ (w' : World) (F : Nat → Prop), Below W0.heap.size W0 w' → (∀ k, F k → W0.heap.size ≤ k) → Less intV I64 fn caps (Qu.ltR a0) w' F) := fun w' F hb hF => by
    subst hfn hcaps
    have hc := (hb.cell (p := ⟨g, 0, none⟩) (by have := HGW.out; show g < _; omega)).trans HCELL.out
    exact less_plays w' F g a0 HI.out hc (fun h => by have := hF g h; have := HGW.out; omega)
  clear hn
  go_enter Try.func3, Try.ntmps3
  go_wp2_with (fail)
  refine (HN.out).mono ?_
  rintro e w1 ⟨qb, F0, rfl, hq, hF0, hb1⟩
  rw [← hcaps, ← hfn] at hq
  have HQ0 := Lib.hid hq
  have HF0 := Lib.hid hF0
  have HB1 := Lib.hid hb1
  clear hq hF0 hb1 HN hfn hcaps
  obtain ⟨lt, hlt⟩ : ∃ lt, Qu.ltR a0 = lt := ⟨_, rfl⟩
  have HRP : Hid (∀ (v : Value) (l : List Int) (x : Int) (w : World), Lv iK w w.heap.size v l → I64 x → l.length ≤ 17592186044000 → Calls Try.prog 14 #[v, .int .i64 x, .int .i64 a0] w (IsL1 iK (Qu.ins lt l x) w)) := fun v l x w h hx hs => by rw [← hlt]; exact rpush_any v l x a0 _ w (Nat.le_refl _) h hx HI.out hs
  have HORD := Lib.hid (Qu.ltR_order a0)
  rw [hlt] at HQ0 HLS HORD
  clear hlt
  go_wp2
  go_loopw [6, 7] (fun u i wr => ∃ (k : Nat) (S : List Int) (m : Nat) (F : Nat → Prop), k ≤ l1.length ∧ i = .int .i64 k ∧ Hid (m ≤ k) ∧ Hid (S.length ≤ k) ∧ Hid (IsQI wr F qb fn caps lt S m) ∧ Hid (Lv iK wr wr.heap.size u S) ∧ Hid (0 < S.length → ∀ k, u.ownBlock = some k → ¬ F k) ∧ Hid (∀ k, F k → W0.heap.size ≤ k) ∧ Below W0.heap.size W0 wr) (fun _ i _ => l1.length - (intOf i).toNat)
  case atStart => exact ⟨0, [], 0, F0, by omega, rfl, Nat.le_refl _, by simp [Hid], HQ0.out, Lv.nil_ _ _ _, (fun h => by simp at h), HF0.out, HB1.out⟩
  case round =>
    obtain ⟨k, S, m, F, hk, rfl, HM, HSL, HQ, HU, HUF, HF, hbr⟩ := hrel
    clear HQ0 HF0 HB1
    by_cases hlt : k < l1.length
    · obtain ⟨bo, off, ⟨t, x⟩, rfl, -, hok, -, hrg⟩ := (FO.out.below_ hbr (Nat.le_refl _)).mid_ hlt
      change wr.rangeAt bo (off + k * 2) [.int .u8 (t : Nat), .int .i64 x] at hrg
      have htx : t < 256 := hok.1
      have HX := Lib.hid hok.2
      have HRG := Lib.hid hrg
      have hbase : W0.heap.size ≤ wr.heap.size := hbr.size
      have HS1 : Hid (S.length ≤ 1048576) := by have := HSL.out; have := HK.out; unfold Hid; omega
      have HM1 : Hid (m ≤ 4194304) := by have := HM.out; have := HK.out; unfold Hid; omega
      -- the deed in memory of its own
      have t9 : Turned (fun _ => False) wr (wr.alloc (.cells #[.int .u8 (t : Nat), .int .i64 x] 29)) := (Turned.refl _ wr).alloc _
      have hn9 := heap_alloc_new wr (.cells #[.int .u8 (t : Nat), .int .i64 x] 29)
      have hz9 : (wr.alloc (.cells #[.int .u8 (t : Nat), .int .i64 x] 29)).heap.size = wr.heap.size + 1 := by simp
      have hb9 := hbr.alloc hbase (.cells #[.int .u8 (t : Nat), .int .i64 x] 29)
      obtain ⟨w9, hw9⟩ : ∃ w9, wr.alloc (.cells #[.int .u8 (t : Nat), .int .i64 x] 29) = w9 := ⟨_, rfl⟩
      obtain ⟨go, hgo⟩ : ∃ go, wr.heap.size = go := ⟨_, rfl⟩
      rw [hw9] at t9 hn9 hz9 hb9
      rw [hgo] at hn9 hz9 hbase
      have c0 : w9.cell? ⟨go, 0, none⟩ = some (.int .u8 (t : Nat)) := by rw [cell_of_row _ go 0 _ _ _ hn9]; rfl
      have c1 : w9.cell? ⟨go, 1, none⟩ = some (.int .i64 x) := by rw [cell_of_row _ go 1 _ _ _ hn9]; rfl
      have HQ9 := Lib.hid (HQ.out.turned_ t9 (fun _ _ _ h => h))
      have HU9 := Lib.hid ((HU.out.turned_ t9 (fun _ _ h => h)).mono_ t9.size)
      have HFgo : Hid (¬ F go) := fun h => by have := HQ.out.lt_ go h; omega
      have HB9 := Lib.hid hb9
      have HC1 := Lib.hid c1
      have HC0 := Lib.hid c0
      have HZ9 := Lib.hid hz9
      have HBA := Lib.hid hbase
      have HGO := Lib.hid hgo
      obtain ⟨Au, cu, hu, hu1, hu2, _⟩ := HU9.out
      subst hu
      have hsl : S.length ≤ 9223372036854775807 := by have := HS1.out; omega
      clear t9 hn9 hz9 hb9 hrg hok HQ HU hbr hu1 hu2 hbase c1
      by_cases ht0 : t = 0
      · have hb0 : ((t : Int) == 0) = true := by rw [ht0]; rfl
        clear ht0
        have hp := ppushI HQ9.out HORD.out (HLS.out w9 F HB9.out HF.out) x HX.out HM1.out
        change Calls Try.prog _ #[.pointer (some ⟨qb, 0, none⟩), .int .i64 x] _ _ at hp
        have HP := Lib.hid hp
        have c1 := HC1.out
        clear hp
        go_wp2_with (first | (refine wpList_load_mid rfl _ _ rfl bo (off + k * 2) rfl [.int .u8 (t : Nat), .int .i64 x] _ HRG.out Try.underlying29 rfl (by kernel_rfl) ?_) | (refine wpList_store_row rfl _ _ _ rfl wr.heap.size #[.int .u8 (t : Nat), .int .i64 x] rfl rfl 29 _ (heap_alloc_new wr _) (by kernel_rfl) rfl rfl ?_; rw [World.setRow_alloc_new]))
        refine (HP.out).mono ?_
        rintro e w10 ⟨rfl, F1, hq1, ht1, hF1⟩
        have hb10 := HB9.out.trans (ht1.below HB9.out.size HF.out)
        have c1' : w10.cell? ⟨go, 1, none⟩ = some (.int .i64 x) := ht1.cell HC1.out HFgo.out
        have cg : w10.cell? ⟨g, 0, none⟩ = some (.int .i64 a0) := (hb10.cell (p := ⟨g, 0, none⟩) (by have := HGW.out; show g < _; omega)).trans HCELL.out
        have HU10 := Lib.hid ((HU9.out.turnedB_ ht1 HUF.out).mono_ ht1.size)
        have HF1 : Hid (∀ k, F1 k → W0.heap.size ≤ k) := fun k h => by
          rcases hF1 k h with h | h
          · exact HF.out k h
          · have := HB9.out.size; omega
        have HQ1 := Lib.hid hq1
        have HB10 := Lib.hid hb10
        have hr := HRP.out _ S x w10 HU10.out HX.out (by have := HS1.out; omega)
        have hil := Qu.ins_len (lt := lt) S x
        obtain ⟨S1, hS1⟩ : ∃ S1, Qu.ins lt S x = S1 := ⟨_, rfl⟩
        rw [hS1] at hr hil HQ1
        have HR := Lib.hid hr
        have HIL := Lib.hid hil
        clear hq1 ht1 hF1 hb10 hr HP HC1 HC0 HQ9 HB9 hS1 hil c1
        go_wp2_with (fail)
        refine (HR.out).mono ?_
        rintro e w11 ⟨A11, c11, rfl, ho, hb⟩
        have HQ11 := Lib.hid (HQ1.out.turned_ (Turned.of_below hb) (fun k hk h1 h2 => by omega))
        have HU11 := Lib.hid ho.form_
        have HUF11 : Hid (0 < S1.length → ∀ k, (Value.slice A11 S1.length c11).ownBlock = some k → ¬ F1 k) := fun _ k h1 h2 => by
          have := (ho.lt_ k h1).1
          have := HQ1.out.lt_ k h2
          omega
        have HB11 := Lib.hid (HB10.out.trans (hb.mono HB10.out.size))
        have hs1 : S1.length ≤ 9223372036854775807 := by have := HIL.out; have := HS1.out; omega
        clear ho hb HR HQ1 HB10 HU10 c1' cg
        have hlen := plenI HQ11.out
        have HLEN := Lib.hid hlen
        have hne : (((S1).length : Int) != ((S1).length : Int)) = false := by simp
        have HK1 : Hid (k + 1 ≤ l1.length) := hlt
        clear hlen
        go_wp2_with (fail)
        refine (HLEN.out).mono ?_
        rintro e w12 ⟨rfl, bl⟩
        have HQn := Lib.hid (HQ11.out.turned_ (Turned.of_below bl) (fun k hk h1 h2 => by omega))
        have HUn := Lib.hid ((HU11.out.below_ bl (Nat.le_refl _)).mono_ bl.size)
        have HBn := Lib.hid (HB11.out.trans (bl.mono HB11.out.size))
        clear bl HLEN
        go_wp2
        exact ⟨⟨k + 1, S1, m + 1, F1, HK1.out, by go_num, (by have := HM.out; unfold Hid; omega), (by have := HIL.out; have := HSL.out; unfold Hid; omega), HQn.out, HUn.out, HUF11.out, HF1.out, HBn.out⟩, by simp [intOf]; omega⟩
      · have hb0 : ((t : Int) == 0) = false := by rw [beq_eq_false_iff_ne]; omega
        by_cases ht1 : t = 1
        · have hb1 : ((t : Int) == 1) = true := by rw [ht1]; rfl
          clear ht0 ht1
          rcases S with _ | ⟨y, r⟩
          · skip
            have hp := ppeekI HQ9.out HORD.out
            change Calls Try.prog _ #[.pointer (some ⟨qb, 0, none⟩)] _ (fun e w' => e = .returned (.tuple #[.int .i64 0, .bool false]) ∧ _) at hp
            have HP := Lib.hid hp
            clear hp
            go_wp2_with (first | (refine wpList_load_mid rfl _ _ rfl bo (off + k * 2) rfl [.int .u8 (t : Nat), .int .i64 x] _ HRG.out Try.underlying29 rfl (by kernel_rfl) ?_) | (refine wpList_store_row rfl _ _ _ rfl wr.heap.size #[.int .u8 (t : Nat), .int .i64 x] rfl rfl 29 _ (heap_alloc_new wr _) (by kernel_rfl) rfl rfl ?_; rw [World.setRow_alloc_new]))
            refine (HP.out).mono ?_
            rintro e w10 ⟨rfl, bp⟩
            have HQ10 := Lib.hid (HQ9.out.turned_ (Turned.of_below bp) (fun k hk h1 h2 => by have := HQ9.out.lt_ k h1; omega))
            have HU10 := Lib.hid ((HU9.out.below_ bp (Nat.le_refl _)).mono_ bp.size)
            have HB10 := Lib.hid (HB9.out.trans (bp.mono HB9.out.size))
            have c0' : w10.cell? ⟨go, 0, none⟩ = some (.int .u8 (t : Nat)) := (bp.cell (p := ⟨go, 0, none⟩) (by have := HZ9.out; show go < _; omega)).trans HC0.out
            have HC0' := Lib.hid c0'
            clear bp HP HQ9 HU9 HB9 HC0 HC1
            have hp := ppopI HQ10.out HORD.out (HLS.out w10 F HB10.out HF.out) HM1.out
            change Calls Try.prog _ #[.pointer (some ⟨qb, 0, none⟩)] _ (fun e w' => e = .returned (.tuple #[.int .i64 0, .bool false]) ∧ ∃ F' : Nat → Prop, IsQI w' F' qb fn caps lt ([] : List Int) m ∧ Turned F w10 w' ∧ ∀ k, F' k → F k ∨ w10.heap.size ≤ k) at hp
            have HP := Lib.hid hp
            clear hp
            go_wp2_with (fail)
            refine (HP.out).mono ?_
            rintro e w11 ⟨rfl, F1, hq1, ht1, hF1⟩
            have HB11 := Lib.hid (HB10.out.trans (ht1.below HB10.out.size HF.out))
            have c2 : w11.cell? ⟨go, 0, none⟩ = some (.int .u8 (t : Nat)) := ht1.cell HC0'.out HFgo.out
            have HU11 := Lib.hid ((HU10.out.turnedB_ ht1 HUF.out).mono_ ht1.size)
            have HF1 : Hid (∀ k, F1 k → W0.heap.size ≤ k) := fun k h => by
              rcases hF1 k h with h | h
              · exact HF.out k h
              · have := HB10.out.size; omega
            have HUF1 : Hid (0 < ([] : List Int).length → ∀ k, (Value.slice Au ([] : List Int).length cu).ownBlock = some k → ¬ F1 k) := fun h => by simp at h
            have HQ11 := Lib.hid hq1
            clear hq1 ht1 hF1 HP HQ10 HU10 HB10 HC0' c0'
            have hlen := plenI HQ11.out
            have HLEN := Lib.hid hlen
            have hne : (((([] : List Int)).length : Int) != ((([] : List Int)).length : Int)) = false := by simp
            have HK1 : Hid (k + 1 ≤ l1.length) := hlt
            clear hlen
            go_wp2_with (fail)
            refine (HLEN.out).mono ?_
            rintro e w12 ⟨rfl, bl⟩
            have HQn := Lib.hid (HQ11.out.turned_ (Turned.of_below bl) (fun k hk h1 h2 => by omega))
            have HUn := Lib.hid ((HU11.out.below_ bl (Nat.le_refl _)).mono_ bl.size)
            have HBn := Lib.hid (HB11.out.trans (bl.mono HB11.out.size))
            clear bl HLEN
            go_wp2
            exact ⟨⟨k + 1, ([] : List Int), m, F1, HK1.out, by go_num, (by have := HM.out; unfold Hid; omega), (by simp [Hid]), HQn.out, (by simpa [Hid] using HUn.out), HUF1.out, HF1.out, HBn.out⟩, by simp [intOf]; omega⟩
          · skip
            have hp := ppeekI HQ9.out HORD.out
            change Calls Try.prog _ #[.pointer (some ⟨qb, 0, none⟩)] _ (fun e w' => e = .returned (.tuple #[.int .i64 y, .bool true]) ∧ _) at hp
            have HP := Lib.hid hp
            clear hp
            go_wp2_with (first | (refine wpList_load_mid rfl _ _ rfl bo (off + k * 2) rfl [.int .u8 (t : Nat), .int .i64 x] _ HRG.out Try.underlying29 rfl (by kernel_rfl) ?_) | (refine wpList_store_row rfl _ _ _ rfl wr.heap.size #[.int .u8 (t : Nat), .int .i64 x] rfl rfl 29 _ (heap_alloc_new wr _) (by kernel_rfl) rfl rfl ?_; rw [World.setRow_alloc_new]))
            refine (HP.out).mono ?_
            rintro e w10 ⟨rfl, bp⟩
            have HQ10 := Lib.hid (HQ9.out.turned_ (Turned.of_below bp) (fun k hk h1 h2 => by have := HQ9.out.lt_ k h1; omega))
            have HU10 := Lib.hid ((HU9.out.below_ bp (Nat.le_refl _)).mono_ bp.size)
            have HB10 := Lib.hid (HB9.out.trans (bp.mono HB9.out.size))
            have c0' : w10.cell? ⟨go, 0, none⟩ = some (.int .u8 (t : Nat)) := (bp.cell (p := ⟨go, 0, none⟩) (by have := HZ9.out; show go < _; omega)).trans HC0.out
            have HC0' := Lib.hid c0'
            clear bp HP HQ9 HU9 HB9 HC0 HC1
            have hp := ppopI HQ10.out HORD.out (HLS.out w10 F HB10.out HF.out) HM1.out
            change Calls Try.prog _ #[.pointer (some ⟨qb, 0, none⟩)] _ (fun e w' => e = .returned (.tuple #[.int .i64 y, .bool true]) ∧ ∃ F' : Nat → Prop, IsQI w' F' qb fn caps lt r m ∧ Turned F w10 w' ∧ ∀ k, F' k → F k ∨ w10.heap.size ≤ k) at hp
            have HP := Lib.hid hp
            clear hp
            go_wp2_with (fail)
            refine (HP.out).mono ?_
            rintro e w11 ⟨rfl, F1, hq1, ht1, hF1⟩
            have HB11 := Lib.hid (HB10.out.trans (ht1.below HB10.out.size HF.out))
            have c2 : w11.cell? ⟨go, 0, none⟩ = some (.int .u8 (t : Nat)) := ht1.cell HC0'.out HFgo.out
            have HU11 := Lib.hid ((HU10.out.turnedB_ ht1 HUF.out).mono_ ht1.size)
            have HF1 : Hid (∀ k, F1 k → W0.heap.size ≤ k) := fun k h => by
              rcases hF1 k h with h | h
              · exact HF.out k h
              · have := HB10.out.size; omega
            have HUF1 : Hid (0 < (y :: r).length → ∀ k, (Value.slice Au (y :: r).length cu).ownBlock = some k → ¬ F1 k) := fun hp k h1 h2 => by
              rcases hF1 k h2 with h | h
              · exact HUF.out hp k h1 h
              · have := HU10.out.blk_ hp h1
                omega
            have HQ11 := Lib.hid hq1
            clear hq1 ht1 hF1 HP HQ10 HU10 HB10 HC0' c0'
            obtain ⟨b5, o5, y5, e5, -, -, e6, cy⟩ := HU11.out.int_ (k := 0) (by simp)
            simp at e6
            subst e6
            rw [Nat.add_zero] at cy
            subst e5
            obtain ⟨A', f1, f2, f3, f4⟩ := cut_from iK iK_elem (some ⟨b5, o5, none⟩) (y :: r).length cu 1 (by simp) (HU11.out.len_.2.1)
            have hd1 : (y :: r).length - 1 = r.length := by simp
            rw [hd1] at f1 f2 f3 f4
            change ∀ w, (Instr.slice 27 (.slice (some ⟨b5, o5, none⟩) (r.length + 1) cu) (some (.int .i64 1)) none none).run Try.prog w = _ at f1
            change ∀ w, (Instr.sliceAt 27 (.slice (some ⟨b5, o5, none⟩) (r.length + 1) cu) (some (.int .i64 1)) none none).run Try.prog w = _ at f2
            have HU12 : Hid (Lv iK w11 w11.heap.size (.slice A' r.length (cu - 1)) r) := f3 _ _ _ HU11.out
            have HUF12 : Hid (0 < r.length → ∀ k, (Value.slice A' r.length (cu - 1)).ownBlock = some k → ¬ F1 k) := fun _ k h1 => HUF1.out (by simp) k (by rw [← h1, f4])
            have hxy : ((y : Int) != (y : Int)) = false := by simp
            clear f3 f4 hd1
            have hlen := plenI HQ11.out
            have HLEN := Lib.hid hlen
            have hne : (((r).length : Int) != ((r).length : Int)) = false := by simp
            have HK1 : Hid (k + 1 ≤ l1.length) := hlt
            clear hlen
            go_wp2_with (fail)
            refine (HLEN.out).mono ?_
            rintro e w12 ⟨rfl, bl⟩
            have HQn := Lib.hid (HQ11.out.turned_ (Turned.of_below bl) (fun k hk h1 h2 => by omega))
            have HUn := Lib.hid ((HU12.out.below_ bl (Nat.le_refl _)).mono_ bl.size)
            have HBn := Lib.hid (HB11.out.trans (bl.mono HB11.out.size))
            clear bl HLEN
            go_wp2
            exact ⟨⟨k + 1, r, m, F1, HK1.out, by go_num, (by have := HM.out; unfold Hid; omega), (by have := HSL.out; simp at this; unfold Hid; omega), HQn.out, HUn.out, HUF12.out, HF1.out, HBn.out⟩, by simp [intOf]; omega⟩
        · have hb1 : ((t : Int) == 1) = false := by rw [beq_eq_false_iff_ne]; omega
          clear ht0 ht1
          rcases S with _ | ⟨y, r⟩
          · skip
            have hp := ppeekI HQ9.out HORD.out
            change Calls Try.prog _ #[.pointer (some ⟨qb, 0, none⟩)] _ (fun e w' => e = .returned (.tuple #[.int .i64 0, .bool false]) ∧ _) at hp
            have HP := Lib.hid hp
            clear hp
            go_wp2_with (first | (refine wpList_load_mid rfl _ _ rfl bo (off + k * 2) rfl [.int .u8 (t : Nat), .int .i64 x] _ HRG.out Try.underlying29 rfl (by kernel_rfl) ?_) | (refine wpList_store_row rfl _ _ _ rfl wr.heap.size #[.int .u8 (t : Nat), .int .i64 x] rfl rfl 29 _ (heap_alloc_new wr _) (by kernel_rfl) rfl rfl ?_; rw [World.setRow_alloc_new]))
            refine (HP.out).mono ?_
            rintro e w10 ⟨rfl, bp⟩
            have HQ10 := Lib.hid (HQ9.out.turned_ (Turned.of_below bp) (fun k hk h1 h2 => by have := HQ9.out.lt_ k h1; omega))
            have HU10 := Lib.hid ((HU9.out.below_ bp (Nat.le_refl _)).mono_ bp.size)
            have HB10 := Lib.hid (HB9.out.trans (bp.mono HB9.out.size))
            have c0' : w10.cell? ⟨go, 0, none⟩ = some (.int .u8 (t : Nat)) := (bp.cell (p := ⟨go, 0, none⟩) (by have := HZ9.out; show go < _; omega)).trans HC0.out
            have HC0' := Lib.hid c0'
            clear bp HP HQ9 HU9 HB9 HC0 HC1
            have hlen := plenI HQ10.out
            have HLEN := Lib.hid hlen
            have hne : (((([] : List Int)).length : Int) != ((([] : List Int)).length : Int)) = false := by simp
            have HK1 : Hid (k + 1 ≤ l1.length) := hlt
            clear hlen
            go_wp2_with (fail)
            refine (HLEN.out).mono ?_
            rintro e w12 ⟨rfl, bl⟩
            have HQn := Lib.hid (HQ10.out.turned_ (Turned.of_below bl) (fun k hk h1 h2 => by omega))
            have HUn := Lib.hid ((HU10.out.below_ bl (Nat.le_refl _)).mono_ bl.size)
            have HBn := Lib.hid (HB10.out.trans (bl.mono HB10.out.size))
            clear bl HLEN
            go_wp2
            exact ⟨⟨k + 1, ([] : List Int), m, F, HK1.out, by go_num, (by have := HM.out; unfold Hid; omega), (by simp [Hid]), HQn.out, (by simpa [Hid] using HUn.out), HUF.out, HF.out, HBn.out⟩, by simp [intOf]; omega⟩
          · skip
            have hp := ppeekI HQ9.out HORD.out
            change Calls Try.prog _ #[.pointer (some ⟨qb, 0, none⟩)] _ (fun e w' => e = .returned (.tuple #[.int .i64 y, .bool true]) ∧ _) at hp
            have HP := Lib.hid hp
            clear hp
            go_wp2_with (first | (refine wpList_load_mid rfl _ _ rfl bo (off + k * 2) rfl [.int .u8 (t : Nat), .int .i64 x] _ HRG.out Try.underlying29 rfl (by kernel_rfl) ?_) | (refine wpList_store_row rfl _ _ _ rfl wr.heap.size #[.int .u8 (t : Nat), .int .i64 x] rfl rfl 29 _ (heap_alloc_new wr _) (by kernel_rfl) rfl rfl ?_; rw [World.setRow_alloc_new]))
            refine (HP.out).mono ?_
            rintro e w10 ⟨rfl, bp⟩
            have HQ10 := Lib.hid (HQ9.out.turned_ (Turned.of_below bp) (fun k hk h1 h2 => by have := HQ9.out.lt_ k h1; omega))
            have HU10 := Lib.hid ((HU9.out.below_ bp (Nat.le_refl _)).mono_ bp.size)
            have HB10 := Lib.hid (HB9.out.trans (bp.mono HB9.out.size))
            have c0' : w10.cell? ⟨go, 0, none⟩ = some (.int .u8 (t : Nat)) := (bp.cell (p := ⟨go, 0, none⟩) (by have := HZ9.out; show go < _; omega)).trans HC0.out
            have HC0' := Lib.hid c0'
            clear bp HP HQ9 HU9 HB9 HC0 HC1
            obtain ⟨b5, o5, y5, e5, -, -, e6, cy⟩ := HU10.out.int_ (k := 0) (by simp)
            simp at e6
            subst e6
            rw [Nat.add_zero] at cy
            subst e5
            have hxy : ((y : Int) != (y : Int)) = false := by simp
            have hlen := plenI HQ10.out
            have HLEN := Lib.hid hlen
            have hne : ((((y :: r)).length : Int) != (((y :: r)).length : Int)) = false := by simp
            have HK1 : Hid (k + 1 ≤ l1.length) := hlt
            clear hlen
            go_wp2_with (fail)
            refine (HLEN.out).mono ?_
            rintro e w12 ⟨rfl, bl⟩
            have HQn := Lib.hid (HQ10.out.turned_ (Turned.of_below bl) (fun k hk h1 h2 => by omega))
            have HUn := Lib.hid ((HU10.out.below_ bl (Nat.le_refl _)).mono_ bl.size)
            have HBn := Lib.hid (HB10.out.trans (bl.mono HB10.out.size))
            clear bl HLEN
            go_wp2
            exact ⟨⟨k + 1, (y :: r), m, F, HK1.out, by go_num, (by have := HM.out; unfold Hid; omega), (by have := HSL.out; unfold Hid; omega), HQn.out, HUn.out, HUF.out, HF.out, HBn.out⟩, by simp [intOf]; omega⟩
    · have HW := Lib.hid (works_any wr)
      have HBr := Lib.hid hbr
      clear hbr
      go_wp2_with (fail)
      refine (HW.out).mono ?_
      rintro e w9 ⟨rfl, b9⟩
      have HB9 := Lib.hid (HBW.out.trans ((HBr.out.trans (b9.mono HBr.out.size)).mono HBW.out.size))
      clear b9 HW
      go_wp2
      go_ret
      exact ⟨rfl, HB9.out⟩

/-! ### From the walk to the row -/
set_option maxRecDepth 100000 in
theorem lifted (os : Os) (started : os.Started) (H : Type) (enc : TypeId × Value → H) (F : Stop.Interp) :
    ReturnsInHanded {} Try.checked os 3 .any ((Rows.OpenSpec.upto Rows.queuePlaysSpec).pre6 enc Try.prog Try.f3 Rows.queuePlaysUptoRow.domain false) (((Rows.OpenSpec.upto Rows.queuePlaysSpec).at F).post enc Try.prog Try.f3 false true false false) := by
  refine returnsInHanded_of_cond (C := Try.checked) (s := Rows.OpenSpec.upto Rows.queuePlaysSpec) (k := Rows.uptoSmall) rfl own started (by kernel_rfl) Try.func3
    (OpenSpec.witness (enc := enc) (C := Try.checked) (s := Rows.OpenSpec.upto Rows.queuePlaysSpec) (k := Rows.uptoSmall) rfl false ⟨#[], #[.int .i64 0, .slice none 0 0], []⟩ 8 (by kernel_rfl) (by kernel_rfl) (by kernel_rfl)
      (x := ([.lit (.int .i64 0), .nil], [], [])) (by kernel_rfl) rfl (by kernel_rfl)) ?_
  intro W base args ds gs before hval0 hW hcnd hsmall _
  have hval : ∀ (j : Nat) t v, Try.f3.params[j]? = some t → args[j]? = some v → Value.okWide Try.prog W .any base t v := hval0
  have hW' := hW
  obtain ⟨p, q, hA0, hV, rfl, hfz, hnd⟩ := hW
  have hA : DataW.TrodAll enc Try.prog W 0 (fun _ => true) true Try.f3.params.toList args.toList ds p := hA0
  rw [Try.params3] at hA hval
  obtain ⟨v0, vs0, d0, ds0, p0, q0, hargs, rfl, rfl, h0, r0⟩ := trodAll_cons hA
  obtain ⟨v1, vs1, d1, ds1, p1, q1, rfl, rfl, rfl, h1, r1⟩ := trodAll_cons r0
  obtain ⟨rfl, rfl, rfl⟩ := trodAll_nil r1
  obtain rfl : args = #[v0, v1] := by cases args; simp_all
  obtain ⟨rfl, rfl⟩ := trodVars_none hV
  obtain ⟨a0, rfl, rfl, rfl, w0⟩ := open_int Try.underlying3 (hval 0 3 v0 rfl rfl) h0
  obtain ⟨a1, len1, cap1, rfl⟩ := okWide_slice Try.underlying22 (hval 1 22 v1 rfl rfl)
  have k1 := h1
  have lt1 : ∀ x ∈ p1, x.block < W.heap.size := by obtain ⟨m, hm⟩ := k1; exact DataW.trod_lt m _ _ _ hm
  have bulk1 : len1 ≤ Rows.uptoBulk d1 := by
    obtain ⟨fuel, hf⟩ := h1
    exact bulk_slice Try.underlying22 hf
  obtain ⟨l1, len_1, hb1⟩ : ∃ l : List (Nat × Int), l.length = len1 ∧ Lv oK W W.heap.size (.slice a1 len1 cap1) l := by
    obtain ⟨fuel, hf⟩ := h1
    exact ops_in hf
  clear hA0 hval0
  have hsum := bulk_whole hsmall
  simp only [List.append_nil, Rows.uptoBulkAll] at hsum
  have hsum2 : l1.length ≤ 1048576 := by omega
  refine (walk W a0 w0 (.slice a1 len1 cap1) l1 hb1 hsum2).mono fun e W' ⟨he, bel⟩ => ?_
  subst he
  exact ⟨_, rfl, _, _, _, [], _, [], hW', trodAll_mk1 (shut_bool Try.underlying4 _), (trodAll_cons_mk (shut_int Try.underlying3 w0) (trodAll_cons_mk (Below.trod laidOut (by kernel_rfl) (of_decide_eq_true (by kernel_rfl)) k1 bel lt1) trodAll_mk0)), rfl, bel.frame _, fun h => by cases h⟩

theorem proved : Rows.QueuePlaysUptoSaid :=
  OpenClaim.holds_of_cond 3 Try.f3 rfl rfl rfl rfl rfl rfl rfl ⟨rfl, rfl, rfl, rfl, rfl⟩ rfl rfl rfl rfl rfl (by kernel_rfl) Try.func3 (by kernel_rfl)
    (of_decide_eq_true (by kernel_rfl)) (by unfold Func.isWrapper; first | (rw [if_pos (by decide +kernel)]; kernel_rfl) | (rw [if_neg (by decide +kernel)]; exact ⟨rfl, rfl⟩))
    (fun os started H enc _ F => lifted os started H enc F)

end Go.Proofs.Ytiogmgpkaiicpaa.queuePlays
