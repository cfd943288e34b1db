/-
  QueueStays: what is popped until there is nothing more is what was pushed, each as often, the least first, of alike ones the first. Bound: the argument's bytes, all told, are at most 1048576.
-/
import Derived.Test.YtiogmgpkaiicpaaFrameI
import Derived.Test.YtiogmgpkaiicpaaBulkL
import Derived.Test.YtiogmgpkaiicpaaQuLaw
import Derived.Test.YtiogmgpkaiicpaaRQu
import Derived.Test.YtiogmgpkaiicpaaFrameB
import Derived.Test.YtiogmgpkaiicpaaQuStays
import Derived.Test.YtiogmgpkaiicpaaQuIsA
namespace Go.Proofs.Ytiogmgpkaiicpaa.queueStays
open Go.ChangeShapes Go.WideShapes Go.ChangeAt Go.RowKit
open Go.ChangeMaps (open_string shut_string)
set_option linter.unusedVariables false

set_option maxHeartbeats 2000000 in
set_option maxRecDepth 100000 in
theorem walk (w : World) (v0 : Value) (l0 : List Nat) (h0 : Lv yK w w.heap.size v0 l0) (hk : l0.length ≤ 1048576) :
    Calls Try.prog 5 #[v0] w (IsBool true w) := by
  have HK := Lib.hid hk
  have FO := Lib.hid h0
  obtain ⟨A, c, rfl, hc1, hc2, _⟩ := h0
  have hl0 : l0.length ≤ 9223372036854775807 := by omega
  clear hc1 hc2 hk
  have hn := pnewA 24 #[] Qu.ltA w
  change Calls Try.prog _ #[.func (.func 24) #[] #[]] _ _ at hn
  have HN := Lib.hid hn
  obtain ⟨fn, hfn⟩ : ∃ fn, fn = 24 := ⟨_, rfl⟩
  obtain ⟨caps, hcaps⟩ : ∃ caps : Array Value, caps = #[] := ⟨_, rfl⟩
  have HLS : Hid (∀ (w' : World) (F : Nat → Prop), Less atV AtOk fn caps Qu.ltA w' F) := fun w' F => by
    subst hfn hcaps
    exact less_stays w' F
  clear hn
  go_enter Try.func5, Try.ntmps5
  go_wp2_with (fail)
  refine (HN.out).mono ?_
  rintro e w1 ⟨qb, F0, rfl, hq, hF0, hb1⟩
  rw [← hcaps, ← hfn] at hq
  have HQ0 := Lib.hid hq
  have HF0 := Lib.hid hF0
  have HB1 := Lib.hid hb1
  clear hq hF0 hb1 HN hfn hcaps
  go_wp2
  go_loopw [4] (fun i wr => ∃ (k : Nat) (F : Nat → Prop), k ≤ l0.length ∧ i = .int .i64 k ∧ Hid (IsQA wr F qb fn caps Qu.ltA (Qu.sorted Qu.ltA (Qu.placed l0 k)) k) ∧ Hid (∀ k, F k → w.heap.size ≤ k) ∧ Below w.heap.size w wr) (fun i _ => l0.length - (intOf i).toNat)
  case atStart => exact ⟨0, F0, by omega, rfl, HQ0.out, HF0.out, HB1.out⟩
  case round =>
    obtain ⟨k, F, hk, rfl, HQ, HF, hbr⟩ := hrel
    clear HQ0 HF0 HB1
    by_cases hlt : k < l0.length
    · obtain ⟨b1, o1, x, rfl, -, hx, hd, hcell⟩ := (FO.out.below_ hbr (Nat.le_refl _)).byte_ hlt
      have hxv : l0.getD k 0 = x := by rw [List.getD_eq_getElem?_getD, hd]; rfl
      have hx256 : x < 256 := hx
      have hp := ppushA HQ.out Qu.ltA_order (HLS.out wr F) ((x : Int), (k : Int)) ⟨i64_nat (by omega), i64_nat (by omega)⟩ (by have := HK.out; omega)
      have hps := Qu.placed_snoc l0 k
      rw [hxv] at hps
      rw [← Qu.sorted_snoc, ← hps] at hp
      change Calls Try.prog _ #[.pointer (some ⟨qb, 0, none⟩), .agg #[.int .i64 (x : Int), .int .i64 (k : Int)]] _ _ at hp
      have HP := Lib.hid hp
      have HK1 : Hid (k + 1 ≤ l0.length) := hlt
      have HBR := Lib.hid hbr
      have hwx : IntKind.i64.wrap (x : Int) = (x : Int) := by rw [IntKind.wrap_i64]; omega
      clear hp hps hxv hd hx HQ hbr
      go_wp2_with (fail)
      refine (HP.out).mono ?_
      rintro e w2 ⟨rfl, F1, hq1, ht1, hF1⟩
      have HQ1 := Lib.hid hq1
      have HB2 := Lib.hid (HBR.out.trans ((ht1.below (B := w.heap.size) HBR.out.size HF.out)))
      have HF1 : Hid (∀ k, F1 k → w.heap.size ≤ k) := fun k h => by
        rcases hF1 k h with h | h
        · exact HF.out k h
        · have := HBR.out.size; omega
      clear hq1 ht1 hF1 HP HBR
      go_wp2
      exact ⟨⟨k + 1, F1, HK1.out, by go_num, HQ1.out, HF1.out, HB2.out⟩, by simp [intOf]; omega⟩
    · have hkn : k = l0.length := by omega
      rw [hkn] at HQ
      obtain ⟨S, hS⟩ : ∃ S, Qu.sorted Qu.ltA (Qu.placed l0 l0.length) = S := ⟨_, rfl⟩
      have HSL : Hid (S.length = l0.length) := by unfold Hid; rw [← hS]; exact Qu.stays_len _ _
      have HMEM : Hid (∀ y ∈ S, 0 ≤ y.2 ∧ y.2 < (l0.length : Nat) ∧ y.1 = ((l0.getD y.2.toNat 0 : Nat) : Int)) := by unfold Hid; rw [← hS]; exact fun y hy => Qu.stays_mem hy
      have HND : Hid ((Qu.places S).Nodup) := by unfold Hid; rw [← hS]; exact Qu.places_nodup _ _
      have HALL : Hid (∀ y, y < l0.length → (y : Int) ∈ Qu.places S) := by unfold Hid; rw [← hS]; exact fun y hy => Qu.places_all _ hy
      have HLAST : Hid (∀ j x, S[j]? = some x → (Qu.lastOf S j).1 ≤ x.1 ∧ ((Qu.lastOf S j).1 = x.1 → (Qu.lastOf S j).2 < x.2)) := by unfold Hid; rw [← hS]; exact fun j x h => Qu.last_next h
      rw [hS] at HQ
      have HBR := Lib.hid hbr
      have hkk := HK.out
      clear hS hkn hbr hk
      go_wp2_with (first | (at_make; go_must (refine wpList_make_l _ iK rfl _ _ rfl wr.heap.size .i64 .i64 _ _ l0.length l0.length rfl rfl rfl rfl (Nat.le_refl _) (by show 8 * _ ≤ _; omega) (by simp only [maxLen]; omega) (Nat.le_refl _) ?_)))
      intro w3 hO hG
      have HT := Lib.hid hO
      have HG := Lib.hid hG
      clear hO hG hkk
      obtain ⟨gt, hgt⟩ : ∃ gt, wr.heap.size = gt := ⟨_, rfl⟩
      rw [hgt] at HT ⊢
      have hb3 : Below gt wr w3 := by rw [← hgt]; exact (Below.refl _ _).grown HG.out (Nat.le_refl _) (by intro k hk; cases hk)
      have HGT : Hid (gt < w3.heap.size) := (HT.out.lt_ gt rfl).2
      -- what came out last: in memory of its own
      have hn4 := heap_alloc_new w3 (.cells #[.int .i64 (-1), .int .i64 (-1)] 46)
      have hb4 : Below gt wr (w3.alloc (.cells #[.int .i64 (-1), .int .i64 (-1)] 46)) := hb3.alloc (by have := HGT.out; omega) _
      have ht4 := HT.out.alloc_ (.cells #[.int .i64 (-1), .int .i64 (-1)] 46)
      go_wp2_with (refine wpList_store_row rfl _ _ _ rfl w3.heap.size #[.int .i64 (-1), .int .i64 (-1)] rfl rfl 46 _ (heap_alloc_new w3 _) (by kernel_rfl) rfl rfl ?_; rw [World.setRow_alloc_new])
      obtain ⟨gl, hgl⟩ : ∃ gl, w3.heap.size = gl := ⟨_, rfl⟩
      have hsz4 : (w3.alloc (.cells #[.int .i64 (-1), .int .i64 (-1)] 46)).heap.size = w3.heap.size + 1 := by simp
      obtain ⟨w4, hw4⟩ : ∃ w4, w3.alloc (.cells #[.int .i64 (-1), .int .i64 (-1)] 46) = w4 := ⟨_, rfl⟩
      rw [hw4] at hn4 hb4 ht4 hsz4 ⊢
      rw [hgl] at hn4 hsz4 ⊢
      have HT4 := Lib.hid ht4
      have HN4 := Lib.hid hn4
      have HB4 : Hid (Below w.heap.size w w4) := HBR.out.trans (hb4.mono (by rw [← hgt]; exact HBR.out.size))
      have HQ4 : Hid (IsQA w4 F qb fn caps Qu.ltA S l0.length) := HQ.out.turned_ (Turned.of_below hb4) (fun k hk h1 h2 => by have := HQ.out.lt_ k h1; omega)
      have HFT : Hid (¬ F gt) := fun h => by have := HQ.out.lt_ gt h; omega
      have HFL : Hid (¬ F gl) := fun h => by have := HQ.out.lt_ gl h; have := HGT.out; omega
      have HTL : Hid (gt < gl) := by have := HGT.out; unfold Hid; omega
      have HS4 : Hid (gl < w4.heap.size) := by unfold Hid; omega
      have HWG : Hid (w.heap.size ≤ gt) := by unfold Hid; rw [← hgt]; exact HBR.out.size
      clear hw4 hn4 hb4 ht4 hsz4 hgl hgt hb3 HT HG HGT HQ HBR
      go_loopw [7] (fun i wr => ∃ (j : Nat) (F : Nat → Prop) (t : List Int), j ≤ l0.length ∧ i = .int .i64 j ∧ Hid (t.length = l0.length) ∧ Hid (Qu.tells (Qu.places S) j t) ∧ Hid (IsQA wr F qb fn caps Qu.ltA (S.drop j) l0.length) ∧ Hid (OwnL iK wr gt (.slice (some ⟨gt, 0, none⟩) l0.length l0.length) t) ∧ Hid (¬ F gt) ∧ Hid (¬ F gl) ∧ Hid (wr.heap[gl]? = some (.cells #[.int .i64 (Qu.lastOf S j).1, .int .i64 (Qu.lastOf S j).2] 46 (0, 0))) ∧ Hid (∀ k, F k → w.heap.size ≤ k) ∧ Below w.heap.size w wr) (fun i _ => l0.length - (intOf i).toNat)
      case atStart => exact ⟨0, F, List.replicate l0.length 0, by omega, rfl, by simp [Hid], Qu.tells_zero _ _, HQ4.out, HT4.out, HFT.out, HFL.out, HN4.out, HF.out, HB4.out⟩
      case round =>
        obtain ⟨j, F, t, hj, rfl, HTN, HTE, HQ, HT, HFT, HFL, HGL, HF, hbr⟩ := hrel
        clear HQ4 HT4 HN4 HB4
        by_cases hlt : j < l0.length
        · have hjS : j < S.length := by have := HSL.out; omega
          obtain ⟨⟨v, p⟩, hx⟩ : ∃ x, S[j]? = some x := ⟨_, List.getElem?_eq_getElem hjS⟩
          obtain ⟨hp0, hp1, hv⟩ := HMEM.out _ (List.mem_of_getElem? hx)
          have hla := HLAST.out j _ hx
          have hpl : (Qu.places S)[j]? = some p := by simp [Qu.places, hx]
          have hls := Qu.last_step hx
          simp only at hp0 hp1 hv hla
          obtain ⟨q, rfl⟩ := Int.eq_ofNat_of_zero_le hp0
          rw [Int.toNat_natCast] at hv
          have hq : q < l0.length := by omega
          obtain ⟨z, hz⟩ : ∃ z, l0.getD q 0 = z := ⟨_, rfl⟩
          rw [hz] at hv
          subst hv
          have hqt : q < t.length := by have := HTN.out; omega
          obtain ⟨ht0, ht1⟩ := Qu.tells_step HND.out HTE.out hpl hqt
          obtain ⟨lx, hlx⟩ : ∃ lx, (Qu.lastOf S j).1 = lx := ⟨_, rfl⟩
          obtain ⟨lp, hlp⟩ : ∃ lp, (Qu.lastOf S j).2 = lp := ⟨_, rfl⟩
          rw [hlx, hlp] at HGL hla
          have hpop := ppopA HQ.out Qu.ltA_order (HLS.out wr F) (by have := HK.out; omega)
          rw [drop_at hx] at hpop
          change Calls Try.prog _ #[.pointer (some ⟨qb, 0, none⟩)] _ (fun e w' => e = .returned (.tuple #[.agg #[.int .i64 (z : Int), .int .i64 (q : Int)], .bool true]) ∧ ∃ F' : Nat → Prop, IsQA w' F' qb fn caps Qu.ltA (S.drop (j + 1)) l0.length ∧ Turned F wr w' ∧ ∀ k, F' k → F k ∨ wr.heap.size ≤ k) at hpop
          have HP := Lib.hid hpop
          have HBR := Lib.hid hbr
          have HGLs : Hid (gl < wr.heap.size) := (Array.getElem?_eq_some_iff.1 HGL.out).1
          have HTE1 := Lib.hid ht1
          have HT0 := Lib.hid ht0
          have HLA := Lib.hid hla
          have HLS1 : Hid (Qu.lastOf S (j + 1) = ((z : Int), (q : Int))) := hls
          have HZ : Hid (l0[q]? = some z) := by unfold Hid; rw [← hz, List.getD_eq_getElem?_getD, List.getElem?_eq_getElem hq]; rfl
          clear hpop hbr ht1 ht0 hla hls hz hlx hlp hpl hp0 hp1 hx hqt HTE HQ hjS
          go_wp2_with (fail)
          refine (HP.out).mono ?_
          rintro e w5 ⟨rfl, F1, hq1, htd, hF1⟩
          have hn6 := heap_alloc_new w5 (.cells #[.int .i64 (z : Int), .int .i64 (q : Int)] 46)
          have ht6 := htd.alloc (.cells #[.int .i64 (z : Int), .int .i64 (q : Int)] 46)
          have hq6 : IsQA (w5.alloc (.cells #[.int .i64 (z : Int), .int .i64 (q : Int)] 46)) F1 qb fn caps Qu.ltA (S.drop (j + 1)) l0.length := hq1.turned_ ((Turned.refl (fun _ => False) w5).alloc _) (fun _ _ _ h => h)
          have hs6 : (w5.alloc (.cells #[.int .i64 (z : Int), .int .i64 (q : Int)] 46)).heap.size = w5.heap.size + 1 := by simp
          go_wp2_with (refine wpList_store_row rfl _ _ _ rfl w5.heap.size #[.int .i64 (z : Int), .int .i64 (q : Int)] rfl rfl 46 _ (heap_alloc_new w5 _) (by kernel_rfl) rfl rfl ?_; rw [World.setRow_alloc_new])
          obtain ⟨gx, hgx⟩ : ∃ gx, w5.heap.size = gx := ⟨_, rfl⟩
          obtain ⟨w6, hw6⟩ : ∃ w6, w5.alloc (.cells #[.int .i64 (z : Int), .int .i64 (q : Int)] 46) = w6 := ⟨_, rfl⟩
          have hsz5 := htd.size
          rw [hw6] at hn6 ht6 hq6 hs6 ⊢
          rw [hgx] at hn6 hs6 hsz5 ⊢
          have HB6 : Hid (Below w.heap.size w w6) := HBR.out.trans (ht6.below HBR.out.size HF.out)
          have HT6 : Hid (OwnL iK w6 gt (.slice (some ⟨gt, 0, none⟩) l0.length l0.length) t) := HT.out.turned_ ht6 (fun k hk => by have e : gt = k := Option.some.inj hk; subst e; exact HFT.out)
          have HGL6 : Hid (w6.heap[gl]? = some (.cells #[.int .i64 lx, .int .i64 lp] 46 (0, 0))) := (ht6.block gl HGLs.out HFL.out).trans HGL.out
          have HGX6 := Lib.hid hn6
          have HQ6 := Lib.hid hq6
          have HGXs : Hid (gl < gx ∧ gx < w6.heap.size) := by have := HGLs.out; unfold Hid; omega
          have HF6 : Hid (∀ k, F1 k → w.heap.size ≤ k) := fun k h => by
            rcases hF1 k h with h | h
            · exact HF.out k h
            · have := HBR.out.size; omega
          have HF6T : Hid (¬ F1 gt) := fun h => by
            rcases hF1 gt h with h | h
            · exact HFT.out h
            · have := HGLs.out; have := HTL.out; omega
          have HF6L : Hid (¬ F1 gl) := fun h => by
            rcases hF1 gl h with h | h
            · exact HFL.out h
            · have := HGLs.out; omega
          clear hn6 ht6 hq6 hs6 hw6 hgx hsz5 hq1 htd hF1 HP HT HGL HBR HF HFT HFL HGLs
          -- what the test reads
          have x0 : w6.cell? ⟨gx, 0, none⟩ = some (.int .i64 (z : Int)) := by rw [cell_of_row _ gx 0 _ _ _ HGX6.out]; rfl
          have x1 : w6.cell? ⟨gx, 1, none⟩ = some (.int .i64 (q : Int)) := by rw [cell_of_row _ gx 1 _ _ _ HGX6.out]; rfl
          have y0 : w6.cell? ⟨gl, 0, none⟩ = some (.int .i64 lx) := by rw [cell_of_row _ gl 0 _ _ _ HGL6.out]; rfl
          have y1 : w6.cell? ⟨gl, 1, none⟩ = some (.int .i64 lp) := by rw [cell_of_row _ gl 1 _ _ _ HGL6.out]; rfl
          obtain ⟨b1, o1, z', rfl, -, hz256, hz', hcell⟩ := (FO.out.below_ HB6.out (Nat.le_refl _)).byte_ (k := q) hq
          rw [HZ.out] at hz'
          obtain rfl := Option.some.inj hz'
          have hz2 : z < 256 := hz256
          have hwz : IntKind.i64.wrap (z : Int) = (z : Int) := by rw [IntKind.wrap_i64]; omega
          have d1 : decide ((q : Int) < 0) = false := by rw [decide_eq_false_iff_not]; omega
          have d2 : decide ((l0.length : Int) ≤ (q : Int)) = false := by rw [decide_eq_false_iff_not]; omega
          have d3 : ((z : Int) != (z : Int)) = false := by simp
          have d4 : decide ((z : Int) < lx) = false := by rw [decide_eq_false_iff_not]; have := HLA.out; omega
          have hqi : (q : Int) < (l0.length : Int) := by omega
          have HJ1 : Hid (j + 1 ≤ l0.length) := hlt
          clear hz' hz256
          by_cases heq : (z : Int) = lx
          · have d5 : ((z : Int) == lx) = true := by rw [beq_iff_eq]; exact heq
            have d6 : decide ((q : Int) < lp) = false := by rw [decide_eq_false_iff_not]; have := HLA.out; omega
            clear heq
            go_quiet (fail)
            generalize hW7 : w6.drewN _ = w7
            have HT7 : Hid (OwnL iK w7 gt (.slice (some ⟨gt, 0, none⟩) l0.length l0.length) t) := by unfold Hid; rw [← hW7]; exact HT6.out.drewN_ _
            have HGL7 : Hid (w7.heap[gl]? = some (.cells #[.int .i64 lx, .int .i64 lp] 46 (0, 0))) := by unfold Hid; rw [← hW7]; exact HGL6.out
            have HGX7 : Hid (w7.heap[gx]? = some (.cells #[.int .i64 (z : Int), .int .i64 (q : Int)] 46 (0, 0))) := by unfold Hid; rw [← hW7]; exact HGX6.out
            have htu7 : Turned (fun k => k = gt ∨ k = gl) w6 w7 := by rw [← hW7]; exact (Turned.refl _ w6).drewN _
            have x17 : w7.cell? ⟨gx, 1, none⟩ = some (.int .i64 (q : Int)) := by rw [cell_of_row _ gx 1 _ _ _ HGX7.out]; rfl
            have hqt : q < t.length := by have := HTN.out; omega
            obtain ⟨y, hy, hcy⟩ := HT7.out.was_ hqt
            rw [HT0.out] at hy
            obtain rfl := Option.some.inj hy
            have hcool := HT7.out.cool_ q
            obtain ⟨hs8, hg8⟩ := HT7.out.setInt_ hqt (x := 1) (by unfold I64; omega)
            have htu8 := htu7.setCell (p := ⟨gt, q, none⟩) (fun _ => .inl rfl) (.int .i64 1)
            have hgx8 := (heap_setCell_other w7 ⟨gt, q, none⟩ gx (.int .i64 1) (by have := HGXs.out; have := HTL.out; show gx ≠ gt; omega)).trans HGX7.out
            have hgl8 := (heap_setCell_other w7 ⟨gt, q, none⟩ gl (.int .i64 1) (by have := HTL.out; show gl ≠ gt; omega)).trans HGL7.out
            obtain ⟨w8, hw8⟩ : ∃ w8, w7.setCell ⟨gt, q, none⟩ (.int .i64 1) = w8 := ⟨_, rfl⟩
            rw [hw8] at hs8 htu8 hgx8 hgl8
            have htu9 := htu8.setRow (g := gl) (fun _ => .inr rfl) #[.int .i64 (z : Int), .int .i64 (q : Int)]
            have HQ9 := Lib.hid (HQ6.out.turned_ htu9 (fun k _ h1 h2 => by rcases h2 with rfl | rfl; exact HF6T.out h1; exact HF6L.out h1))
            have HB9 : Hid (Below w.heap.size w (w8.setRow gl #[.int .i64 (z : Int), .int .i64 (q : Int)])) := HB6.out.trans (htu9.below HB6.out.size (fun k h => by have := HWG.out; have := HTL.out; rcases h with rfl | rfl <;> omega))
            have HT9 : Hid (OwnL iK (w8.setRow gl #[.int .i64 (z : Int), .int .i64 (q : Int)]) gt (.slice (some ⟨gt, 0, none⟩) l0.length l0.length) (t.set q 1)) := hs8.of_block (fun k hk => setRow_other _ _ _ _ (by have e : gt = k := Option.some.inj hk; have := HTL.out; omega))
            have HGL9 : Hid ((w8.setRow gl #[.int .i64 (z : Int), .int .i64 (q : Int)]).heap[gl]? = some (.cells #[.int .i64 (Qu.lastOf S (j + 1)).1, .int .i64 (Qu.lastOf S (j + 1)).2] 46 (0, 0))) := by unfold Hid; rw [HLS1.out]; exact setRow_heap w8 gl _ _ _ _ hgl8
            have HTN9 : Hid ((t.set q 1).length = l0.length) := by unfold Hid; rw [List.length_set]; exact HTN.out
            have HGX8 := Lib.hid hgx8
            have HGL8 := Lib.hid hgl8
            have HALLC : Hid ((#[.int .i64 (z : Int), .int .i64 (q : Int)] : Array Value).all (·.oneCell') = true) := by unfold Hid; first | rfl | simp [Value.oneCell']
            clear htu7 hqt hy hs8 hg8 htu8 htu9 hgx8 hgl8 HT7 HGL7 HGX7 hW7 x0 x1 y0 y1 hcell HT6 HGL6 HGX6 HQ6 HB6 d1 d2 d3 d4 d5
            go_wp2_with (first | (refine wpList_load_row rfl _ _ rfl gx rfl 46 #[.int .i64 (z : Int), .int .i64 (q : Int)] (0, 0) _ HGX8.out Try.underlying46 rfl (by kernel_rfl) ?_) | (refine wpList_store_row rfl _ _ _ rfl gl #[.int .i64 (z : Int), .int .i64 (q : Int)] rfl rfl 46 _ HGL8.out (by kernel_rfl) rfl HALLC.out ?_))
            exact ⟨⟨j + 1, F1, t.set q 1, HJ1.out, by go_num, HTN9.out, HTE1.out, HQ9.out, HT9.out, HF6T.out, HF6L.out, HGL9.out, HF6.out, HB9.out⟩, by simp [intOf]; omega⟩
          · have d5 : ((z : Int) == lx) = false := by rw [beq_eq_false_iff_ne]; exact heq
            clear heq
            go_quiet (fail)
            generalize hW7 : w6.drewN _ = w7
            have HT7 : Hid (OwnL iK w7 gt (.slice (some ⟨gt, 0, none⟩) l0.length l0.length) t) := by unfold Hid; rw [← hW7]; exact HT6.out.drewN_ _
            have HGL7 : Hid (w7.heap[gl]? = some (.cells #[.int .i64 lx, .int .i64 lp] 46 (0, 0))) := by unfold Hid; rw [← hW7]; exact HGL6.out
            have HGX7 : Hid (w7.heap[gx]? = some (.cells #[.int .i64 (z : Int), .int .i64 (q : Int)] 46 (0, 0))) := by unfold Hid; rw [← hW7]; exact HGX6.out
            have htu7 : Turned (fun k => k = gt ∨ k = gl) w6 w7 := by rw [← hW7]; exact (Turned.refl _ w6).drewN _
            have x17 : w7.cell? ⟨gx, 1, none⟩ = some (.int .i64 (q : Int)) := by rw [cell_of_row _ gx 1 _ _ _ HGX7.out]; rfl
            have hqt : q < t.length := by have := HTN.out; omega
            obtain ⟨y, hy, hcy⟩ := HT7.out.was_ hqt
            rw [HT0.out] at hy
            obtain rfl := Option.some.inj hy
            have hcool := HT7.out.cool_ q
            obtain ⟨hs8, hg8⟩ := HT7.out.setInt_ hqt (x := 1) (by unfold I64; omega)
            have htu8 := htu7.setCell (p := ⟨gt, q, none⟩) (fun _ => .inl rfl) (.int .i64 1)
            have hgx8 := (heap_setCell_other w7 ⟨gt, q, none⟩ gx (.int .i64 1) (by have := HGXs.out; have := HTL.out; show gx ≠ gt; omega)).trans HGX7.out
            have hgl8 := (heap_setCell_other w7 ⟨gt, q, none⟩ gl (.int .i64 1) (by have := HTL.out; show gl ≠ gt; omega)).trans HGL7.out
            obtain ⟨w8, hw8⟩ : ∃ w8, w7.setCell ⟨gt, q, none⟩ (.int .i64 1) = w8 := ⟨_, rfl⟩
            rw [hw8] at hs8 htu8 hgx8 hgl8
            have htu9 := htu8.setRow (g := gl) (fun _ => .inr rfl) #[.int .i64 (z : Int), .int .i64 (q : Int)]
            have HQ9 := Lib.hid (HQ6.out.turned_ htu9 (fun k _ h1 h2 => by rcases h2 with rfl | rfl; exact HF6T.out h1; exact HF6L.out h1))
            have HB9 : Hid (Below w.heap.size w (w8.setRow gl #[.int .i64 (z : Int), .int .i64 (q : Int)])) := HB6.out.trans (htu9.below HB6.out.size (fun k h => by have := HWG.out; have := HTL.out; rcases h with rfl | rfl <;> omega))
            have HT9 : Hid (OwnL iK (w8.setRow gl #[.int .i64 (z : Int), .int .i64 (q : Int)]) gt (.slice (some ⟨gt, 0, none⟩) l0.length l0.length) (t.set q 1)) := hs8.of_block (fun k hk => setRow_other _ _ _ _ (by have e : gt = k := Option.some.inj hk; have := HTL.out; omega))
            have HGL9 : Hid ((w8.setRow gl #[.int .i64 (z : Int), .int .i64 (q : Int)]).heap[gl]? = some (.cells #[.int .i64 (Qu.lastOf S (j + 1)).1, .int .i64 (Qu.lastOf S (j + 1)).2] 46 (0, 0))) := by unfold Hid; rw [HLS1.out]; exact setRow_heap w8 gl _ _ _ _ hgl8
            have HTN9 : Hid ((t.set q 1).length = l0.length) := by unfold Hid; rw [List.length_set]; exact HTN.out
            have HGX8 := Lib.hid hgx8
            have HGL8 := Lib.hid hgl8
            have HALLC : Hid ((#[.int .i64 (z : Int), .int .i64 (q : Int)] : Array Value).all (·.oneCell') = true) := by unfold Hid; first | rfl | simp [Value.oneCell']
            clear htu7 hqt hy hs8 hg8 htu8 htu9 hgx8 hgl8 HT7 HGL7 HGX7 hW7 x0 x1 y0 y1 hcell HT6 HGL6 HGX6 HQ6 HB6 d1 d2 d3 d4 d5
            go_wp2_with (first | (refine wpList_load_row rfl _ _ rfl gx rfl 46 #[.int .i64 (z : Int), .int .i64 (q : Int)] (0, 0) _ HGX8.out Try.underlying46 rfl (by kernel_rfl) ?_) | (refine wpList_store_row rfl _ _ _ rfl gl #[.int .i64 (z : Int), .int .i64 (q : Int)] rfl rfl 46 _ HGL8.out (by kernel_rfl) rfl HALLC.out ?_))
            exact ⟨⟨j + 1, F1, t.set q 1, HJ1.out, by go_num, HTN9.out, HTE1.out, HQ9.out, HT9.out, HF6T.out, HF6L.out, HGL9.out, HF6.out, HB9.out⟩, by simp [intOf]; omega⟩
        · have hjn : j = l0.length := by omega
          subst hjn
          have hone : ∀ y, y < l0.length → t[y]? = some 1 := fun y hy => by
            have h1 := HTE.out y (by have := HTN.out; omega)
            rw [List.take_of_length_le (by rw [Qu.places, List.length_map]; have := HSL.out; omega), if_pos (HALL.out y hy)] at h1
            exact h1
          have HONE := Lib.hid hone
          have hq := HQ.out
          rw [List.drop_of_length_le (by have := HSL.out; omega)] at hq
          have HQE := Lib.hid hq
          have HBR := Lib.hid hbr
          clear hone hq hbr HTE HQ hj hlt
          go_wp2
          go_loopw [10] (fun i wr2 => ∃ y : Nat, y ≤ l0.length ∧ i = .int .i64 y ∧ wr2 = wr) (fun i _ => l0.length - (intOf i).toNat)
          case atStart => exact ⟨0, by omega, rfl, rfl⟩
          case round =>
            obtain ⟨y, hy, rfl, rfl⟩ := hrel
            by_cases hlt : y < l0.length
            · obtain ⟨u, hu, hcell⟩ := HT.out.was_ (k := y) (by have := HTN.out; omega)
              rw [HONE.out y hlt] at hu
              obtain rfl := Option.some.inj hu
              clear hu
              go_wp2
              exact ⟨⟨y + 1, by omega, by go_num, trivial⟩, by simp [intOf]; omega⟩
            · have hpop := ppopA HQE.out Qu.ltA_order (HLS.out wr F) (by have := HK.out; omega)
              change Calls Try.prog _ #[.pointer (some ⟨qb, 0, none⟩)] _ (fun e w' => e = .returned (.tuple #[.agg #[.int .i64 0, .int .i64 0], .bool false]) ∧ ∃ F' : Nat → Prop, IsQA w' F' qb fn caps Qu.ltA [] l0.length ∧ Turned F wr w' ∧ ∀ k, F' k → F k ∨ wr.heap.size ≤ k) at hpop
              have HP := Lib.hid hpop
              clear hpop
              go_wp2_with (fail)
              refine (HP.out).mono ?_
              rintro e w5 ⟨rfl, F1, hq1, htd, hF1⟩
              have hb5 : Below w.heap.size w w5 := HBR.out.trans (htd.below HBR.out.size HF.out)
              have hb6 := hb5.alloc hb5.size (.cells #[.int .i64 0, .int .i64 0] 46)
              have hq6 : IsQA (w5.alloc (.cells #[.int .i64 0, .int .i64 0] 46)) F1 qb fn caps Qu.ltA [] l0.length := hq1.turned_ ((Turned.refl (fun _ => False) w5).alloc _) (fun _ _ _ h => h)
              have HLEN := Lib.hid (plenA hq6)
              have HB6 := Lib.hid hb6
              clear hb5 hb6 hq6 hq1 htd hF1 HP
              go_wp2_with (refine wpList_store_row rfl _ _ _ rfl w5.heap.size #[.int .i64 0, .int .i64 0] rfl rfl 46 _ (heap_alloc_new w5 _) (by kernel_rfl) rfl rfl ?_; rw [World.setRow_alloc_new])
              refine (HLEN.out).mono ?_
              rintro e w7 ⟨rfl, b7⟩
              have HB7 := Lib.hid (HB6.out.trans (b7.mono HB6.out.size))
              have HW := Lib.hid (works_any w7)
              clear b7 HLEN HB6
              go_wp2_with (fail)
              refine (HW.out).mono ?_
              rintro e w8 ⟨rfl, b8⟩
              have HB8 := Lib.hid (HB7.out.trans (b8.mono HB7.out.size))
              clear b8 HW
              go_wp2
              go_ret
              exact ⟨rfl, HB8.out⟩

/-! ### From the walk to the row -/
set_option maxRecDepth 100000 in
theorem lifted (os : Os) (started : os.Started) (H : Type) (enc : TypeId × Value → H) (F : Stop.Interp) :
    ReturnsInHanded {} Try.checked os 5 .any ((Rows.OpenSpec.upto Rows.queueStaysSpec).pre6 enc Try.prog Try.f5 Rows.queueStaysUptoRow.domain false) (((Rows.OpenSpec.upto Rows.queueStaysSpec).at F).post enc Try.prog Try.f5 false true false false) := by
  refine returnsInHanded_of_cond (C := Try.checked) (s := Rows.OpenSpec.upto Rows.queueStaysSpec) (k := Rows.uptoSmall) rfl own started (by kernel_rfl) Try.func5
    (OpenSpec.witness (enc := enc) (C := Try.checked) (s := Rows.OpenSpec.upto Rows.queueStaysSpec) (k := Rows.uptoSmall) rfl false ⟨#[], #[.slice none 0 0], []⟩ 8 (by kernel_rfl) (by kernel_rfl) (by kernel_rfl)
      (x := ([.nil], [], [])) (by kernel_rfl) rfl (by kernel_rfl)) ?_
  intro W base args ds gs before hval0 hW hcnd hsmall _
  have hval : ∀ (j : Nat) t v, Try.f5.params[j]? = some t → args[j]? = some v → Value.okWide Try.prog W .any base t v := hval0
  have hW' := hW
  obtain ⟨p, q, hA0, hV, rfl, hfz, hnd⟩ := hW
  have hA : DataW.TrodAll enc Try.prog W 0 (fun _ => true) true Try.f5.params.toList args.toList ds p := hA0
  rw [Try.params5] at hA hval
  obtain ⟨v0, vs0, d0, ds0, p0, q0, hargs, rfl, rfl, h0, r0⟩ := trodAll_cons hA
  obtain ⟨rfl, rfl, rfl⟩ := trodAll_nil r0
  obtain rfl : args = #[v0] := by cases args; simp_all
  obtain ⟨rfl, rfl⟩ := trodVars_none hV
  obtain ⟨a0, len0, cap0, rfl⟩ := okWide_slice Try.underlying42 (hval 0 42 v0 rfl rfl)
  have k0 := h0
  have lt0 : ∀ x ∈ p0, x.block < W.heap.size := by obtain ⟨m, hm⟩ := k0; exact DataW.trod_lt m _ _ _ hm
  have bulk0 : len0 ≤ Rows.uptoBulk d0 := by
    obtain ⟨fuel, hf⟩ := h0
    exact bulk_slice Try.underlying42 hf
  obtain ⟨l0, len_0, hb0⟩ : ∃ l : List Nat, l.length = len0 ∧ Lv yK W W.heap.size (.slice a0 len0 cap0) l := by
    obtain ⟨fuel, hf⟩ := h0
    exact octs_in hf
  clear hA0 hval0
  have hsum := bulk_whole hsmall
  simp only [List.append_nil, Rows.uptoBulkAll] at hsum
  have hsum2 : l0.length ≤ 1048576 := by omega
  refine (walk W (.slice a0 len0 cap0) l0 hb0 hsum2).mono fun e W' ⟨he, bel⟩ => ?_
  subst he
  exact ⟨_, rfl, _, _, _, [], _, [], hW', trodAll_mk1 (shut_bool Try.underlying4 _), (trodAll_cons_mk (Below.trod laidOut (by kernel_rfl) (of_decide_eq_true (by kernel_rfl)) k0 bel lt0) trodAll_mk0), rfl, bel.frame _, fun h => by cases h⟩

theorem proved : Rows.QueueStaysUptoSaid :=
  OpenClaim.holds_of_cond 5 Try.f5 rfl rfl rfl rfl rfl rfl rfl ⟨rfl, rfl, rfl, rfl, rfl⟩ rfl rfl rfl rfl rfl (by kernel_rfl) Try.func5 (by kernel_rfl)
    (of_decide_eq_true (by kernel_rfl)) (by unfold Func.isWrapper; first | (rw [if_pos (by decide +kernel)]; kernel_rfl) | (rw [if_neg (by decide +kernel)]; exact ⟨rfl, rfl⟩))
    (fun os started H enc _ F => lifted os started H enc F)

end Go.Proofs.Ytiogmgpkaiicpaa.queueStays
