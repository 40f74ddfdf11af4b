/- The document's own answer for texts: ReadText. -/
import Derived.Test.YtoejenejleocdabGreatDoorVg
import Derived.Test.YtoejenejleocdabGreatDoorRh
namespace Go.Proofs.YtoejenejleocdabGreatDoor
open Go.RowKit Tx
attribute [local irreducible] Bt.pop Bt.popF

set_option maxRecDepth 100000 in
set_option maxHeartbeats 40000000 in
theorem readText_small (l : Wd) (w : World) (hl : l.length ≤ 400) :
    Calls Tryz.prog 33 #[sv l] w (ReadPost l w) := by
  have hd : decide ((400 : Int) < (l.length : Int)) = false := by simp; omega
  have HSf := Lib.hid (fun W => suffix_any l W (by omega))
  have hel : (endB l).length ≤ 401 := by
    unfold endB
    split
    · omega
    · rw [List.length_append]; simp; omega
  obtain ⟨C, W1, hcv, hB, hb1, hs1, hz1⟩ := bytes_start l w
  have Hcv := Lib.hid hcv
  have HB := Lib.hid hB
  have Hz := Lib.hid hz1
  have HS1 := Lib.hid hs1
  have Hb1 := Lib.hid hb1
  have HErr := Lib.hid (rdB_err l hl)
  have HOk := Lib.hid (rdB_ok l hl)
  have HDr := Lib.hid (drop_one (endB l))
  clear hcv hB hz1 hs1 hb1
  go_enter Tryz.func33, Tryz.ntmps33
  go_wp2_with fail
  with_reducible refine (HSf.out _).mono ?_
  rintro e w0 ⟨rfl, rfl⟩
  clear HSf
  go_upto_if 20 with fail
  go_cut [0] from 18 to 22 (fun s0 wx => s0 = sv (endB l) ∧ wx = w.alloc (.cells #[.slice none 0 0, .slice none 0 0] 43))
  case first =>
    cases hsuf : Lib.hasSuffix l [10] with
    | true =>
      go_wp2_with fail
      go_meet
      exact ⟨by rw [endB_yes hsuf], rfl⟩
    | false =>
      go_wp2_with fail
      go_meet
      exact ⟨by rw [endB_no hsuf]; exact sv_app2 l [10], rfl⟩
  case rest =>
    obtain ⟨rfl, rfl⟩ := hcut
    have hcv := Hcv.out
    clear Hcv hd
    generalize hE : endB l = E at *
    go_wp2_with fail
    clear hcv
    go_loopw [4, 5, 26] (fun s4 s5 s26 wr => ∃ (k : Nat) (acc : List (Option Wd)) (own : Wd), s26 = .int .i64 k ∧ k ≤ E.length ∧ s5 = sv own ∧ acc.length ≤ 2 * k ∧ own.length ≤ k ∧ Hid (rdB E [] [] = rdB (E.drop k) own acc) ∧ RT acc W1 s4 wr) (fun _ _ s _ => E.length - (intOf s).toNat)
    case atStart => exact ⟨0, [], [], rfl, by omega, rfl, by simp, by simp, Lib.hid rfl, ⟨World.ownsRow_nil _ _ _ _, Below.refl _ _⟩⟩
    case round =>
      obtain ⟨k, acc, own, rfl, hk, rfl, hal, hol, Hrd, J⟩ := hrel
      by_cases hlt : k < E.length
      · have hlz : (k : Int) < (E.length : Int) := by omega
        have d0 : wr.cell? ⟨w.heap.size + 1, k, none⟩ = some (.int .u8 (E.getD k 0).toNat) := (J.old.cell (p := ⟨w.heap.size + 1, k, none⟩) (show w.heap.size + 1 < W1.heap.size by have := HS1.out; omega)).trans (HB.out k hlt)
        have HD1 := Lib.hid (HDr.out k hlt)
        rw [HD1.out] at Hrd
        generalize E.getD k 0 = c at *
        have hc0 := c.toNat_lt
        by_cases hc : c ≠ 32 ∧ c ≠ 10
        · have n32 : ((c.toNat : Int) != 32) = true := by
            rw [bne_iff_ne]; exact fun h => hc.1 (UInt8.toNat.inj (by simpa using (by omega : c.toNat = 32)))
          have n10 : ((c.toNat : Int) != 10) = true := by
            rw [bne_iff_ne]; exact fun h => hc.2 (UInt8.toNat.inj (by simpa using (by omega : c.toNat = 10)))
          rw [rdB_on c own acc _ hc.1 hc.2] at Hrd
          have hone := bytes_one c wr
          have J1 := J.on ((Below.refl _ wr).alloc (Nat.le_refl _) (.cells #[.int .u8 c.toNat] 5))
          clear J hc
          go_wp2
          clear hone d0
          go_roundw
          case rel => exact ⟨k + 1, acc, own ++ [c], by go_num, by omega, sv_app3 own c, by omega, by simp; omega, Hrd, J1⟩
          case measure => simp [intOf]; omega
        · have HWd := Lib.hid (fun W => word_any own W (by omega))
          have hcc : c = 32 ∨ c = 10 := by
            by_cases h : c = 32
            · exact .inl h
            · exact .inr (Classical.byContradiction fun h2 => hc ⟨h, h2⟩)
          rcases hcc with hcc | hcc
          · have n32 : ((c.toNat : Int) != 32) = false := by rw [hcc]; rfl
            have n10 : ((c.toNat : Int) != 10) = true := by rw [hcc]; rfl
            have e10 : ((c.toNat : Int) == 10) = false := by rw [hcc]; rfl
            have HRd : Hid (rdB E [] [] = if own ≠ [] ∧ isWord own = false then none else rdB (E.drop (k + 1)) [] (shutW own acc)) := Lib.hid (by
              have := Hrd.out
              rw [hcc, rdB_space] at this
              exact this)
            clear Hrd hc hcc
            go_upto_if 42 with fail
            go_cut [4, 5, 26] from 41 to 50 (fun s4 s5 s26 wx => s5 = sv [] ∧ s26 = .int .i64 k ∧ ¬ (own ≠ [] ∧ isWord own = false) ∧ RT (shutW own acc) W1 s4 wx)
            case first =>
              by_cases h0 : own = []
              · have hbe : own.isEmpty = true := by rw [h0]; rfl
                rw [hbe]
                have H0 := Lib.hid h0
                clear HWd h0
                go_wp2_with fail
                go_meet
                exact ⟨by rw [H0.out], rfl, fun h => h.1 H0.out, by rw [H0.out, shut_no]; exact J⟩
              · have hbe : own.isEmpty = false := by simpa using h0
                rw [hbe]
                cases hw : isWord own with
                | false =>
                  rw [hw] at HWd
                  have HE1 := Lib.hid (HErr.out (by rw [HRd.out, if_pos ⟨h0, hw⟩]))
                  go_wp2_with fail
                  with_reducible refine (HWd.out _).mono ?_
                  rintro e w2 ⟨rfl, hb2⟩
                  have J2 := J.on hb2
                  have hs1 := HS1.out
                  have hz3 := Hz.out.of_block (J2.old.block w.heap.size (by omega))
                  have hold3 := Hb1.out.trans (J2.old.mono (by omega))
                  have z0 : w2.cell? ⟨w.heap.size, 0, none⟩ = some (.slice none 0 0) := hz3.cell (by omega)
                  have z1 : w2.cell? ⟨w.heap.size, 1, none⟩ = some (.slice none 0 0) := hz3.cell (by omega)
                  have f0 : w2.frozen? ⟨w.heap.size, 0, none⟩ = false := hz3.frozen _
                  have f1 : w2.frozen? ⟨w.heap.size, 1, none⟩ = false := hz3.frozen _
                  clear HWd HRd J J2 hb2
                  go_wp2
                  obtain ⟨s0, s1, s2⟩ := setT2 hz3 (.slice none 0 0) (.slice none 0 0)
                  refine bodyPost_ret (v := .tuple #[bookV none 0 0 none 0 0, .int .i64 1]) (by simp [results, Tryz.results33, go_sem, s1, s2]) rfl (.inr ⟨by rw [HE1.out]; decide, by rw [HE1.out], (hold3.setCell (by simp) _).setCell (by simp) _⟩)
                | true =>
                  rw [hw] at HWd
                  go_wp2_with fail
                  with_reducible refine (HWd.out _).mono ?_
                  rintro e w2 ⟨rfl, hb2⟩
                  have J2 := J.on hb2
                  have hs1 := HS1.out
                  have hsz := J2.old.size
                  have hmx : acc.length + 1 ≤ maxLen := by unfold maxLen; omega
                  have J3 := J2.on ((Below.refl _ w2).alloc (Nat.le_refl _) (.cells #[sv own] 9))
                  clear HWd J J2 hb2
                  go_wp2_with (at_builtin; refine wpList_app1 _ rfl _ _ 41 rfl W1.heap.size 9 (.string ⟨#[]⟩) 16 Tryz.underlying41 infoStr rfl _ acc.length (acc.map fun t => sv (tokW t)) rfl w2.heap.size (sv own) rfl J3.own (new1 _ _ _) (by simp) rfl hmx (by omega) (by simp; omega) ?_; intro v' w3 h2 h3 h4)
                  go_meet
                  refine ⟨rfl, rfl, fun h => by rw [hw] at h; exact absurd h.2 (by simp), ?_⟩
                  rw [shut_yes h0]
                  exact J3.app (some own) h2 h3
            case rest =>
              clear J d0 HWd
              obtain ⟨rfl, rfl, hno, J⟩ := hcut
              rw [if_neg hno] at HRd
              have hal2 : (shutW own acc).length ≤ acc.length + 1 := by unfold shutW; split <;> simp
              generalize shutW own acc = acc2 at *
              go_wp2
              go_roundw
              case rel => exact ⟨k + 1, acc2, [], by go_num, by omega, rfl, by omega, by simp, HRd, J⟩
              case measure => simp [intOf]; omega
          · have n32 : ((c.toNat : Int) != 32) = true := by rw [hcc]; rfl
            have n10 : ((c.toNat : Int) != 10) = false := by rw [hcc]; rfl
            have e10 : ((c.toNat : Int) == 10) = true := by rw [hcc]; rfl
            have HRd : Hid (rdB E [] [] = if own ≠ [] ∧ isWord own = false then none else rdB (E.drop (k + 1)) [] (shutW own acc ++ [none])) := Lib.hid (by
              have := Hrd.out
              rw [hcc, rdB_ten] at this
              exact this)
            clear Hrd hc hcc
            go_upto_if 42 with fail
            go_cut [4, 5, 26] from 41 to 50 (fun s4 s5 s26 wx => s5 = sv [] ∧ s26 = .int .i64 k ∧ ¬ (own ≠ [] ∧ isWord own = false) ∧ RT (shutW own acc) W1 s4 wx)
            case first =>
              by_cases h0 : own = []
              · have hbe : own.isEmpty = true := by rw [h0]; rfl
                rw [hbe]
                have H0 := Lib.hid h0
                clear HWd h0
                go_wp2_with fail
                go_meet
                exact ⟨by rw [H0.out], rfl, fun h => h.1 H0.out, by rw [H0.out, shut_no]; exact J⟩
              · have hbe : own.isEmpty = false := by simpa using h0
                rw [hbe]
                cases hw : isWord own with
                | false =>
                  rw [hw] at HWd
                  have HE1 := Lib.hid (HErr.out (by rw [HRd.out, if_pos ⟨h0, hw⟩]))
                  go_wp2_with fail
                  with_reducible refine (HWd.out _).mono ?_
                  rintro e w2 ⟨rfl, hb2⟩
                  have J2 := J.on hb2
                  have hs1 := HS1.out
                  have hz3 := Hz.out.of_block (J2.old.block w.heap.size (by omega))
                  have hold3 := Hb1.out.trans (J2.old.mono (by omega))
                  have z0 : w2.cell? ⟨w.heap.size, 0, none⟩ = some (.slice none 0 0) := hz3.cell (by omega)
                  have z1 : w2.cell? ⟨w.heap.size, 1, none⟩ = some (.slice none 0 0) := hz3.cell (by omega)
                  have f0 : w2.frozen? ⟨w.heap.size, 0, none⟩ = false := hz3.frozen _
                  have f1 : w2.frozen? ⟨w.heap.size, 1, none⟩ = false := hz3.frozen _
                  clear HWd HRd J J2 hb2
                  go_wp2
                  obtain ⟨s0, s1, s2⟩ := setT2 hz3 (.slice none 0 0) (.slice none 0 0)
                  refine bodyPost_ret (v := .tuple #[bookV none 0 0 none 0 0, .int .i64 1]) (by simp [results, Tryz.results33, go_sem, s1, s2]) rfl (.inr ⟨by rw [HE1.out]; decide, by rw [HE1.out], (hold3.setCell (by simp) _).setCell (by simp) _⟩)
                | true =>
                  rw [hw] at HWd
                  go_wp2_with fail
                  with_reducible refine (HWd.out _).mono ?_
                  rintro e w2 ⟨rfl, hb2⟩
                  have J2 := J.on hb2
                  have hs1 := HS1.out
                  have hsz := J2.old.size
                  have hmx : acc.length + 1 ≤ maxLen := by unfold maxLen; omega
                  have J3 := J2.on ((Below.refl _ w2).alloc (Nat.le_refl _) (.cells #[sv own] 9))
                  clear HWd J J2 hb2
                  go_wp2_with (at_builtin; refine wpList_app1 _ rfl _ _ 41 rfl W1.heap.size 9 (.string ⟨#[]⟩) 16 Tryz.underlying41 infoStr rfl _ acc.length (acc.map fun t => sv (tokW t)) rfl w2.heap.size (sv own) rfl J3.own (new1 _ _ _) (by simp) rfl hmx (by omega) (by simp; omega) ?_; intro v' w3 h2 h3 h4)
                  go_meet
                  refine ⟨rfl, rfl, fun h => by rw [hw] at h; exact absurd h.2 (by simp), ?_⟩
                  rw [shut_yes h0]
                  exact J3.app (some own) h2 h3
            case rest =>
              clear J d0 HWd
              obtain ⟨rfl, rfl, hno, J⟩ := hcut
              rw [if_neg hno] at HRd
              have hal2 : (shutW own acc).length ≤ acc.length + 1 := by unfold shutW; split <;> simp
              generalize shutW own acc = acc2 at *
              have hs1 := HS1.out
              have hsz := J.old.size
              have hmx : acc2.length + 1 ≤ maxLen := by unfold maxLen; omega
              have J3 := J.on ((Below.refl _ wc).alloc (Nat.le_refl _) (.cells #[.string ⟨#[10]⟩] 9))
              clear J
              go_wp2_with (at_builtin; refine wpList_app1 _ rfl _ _ 41 rfl W1.heap.size 9 (.string ⟨#[]⟩) 16 Tryz.underlying41 infoStr rfl _ acc2.length (acc2.map fun t => sv (tokW t)) rfl wc.heap.size (.string ⟨#[10]⟩) rfl J3.own (new1 _ _ _) (by simp) rfl hmx (by omega) (by simp; omega) ?_; intro v' w3 h2 h3 h4)
              have J4 := J3.app none h2 h3
              clear J3 h2 h3 h4
              go_wp2
              go_roundw
              case rel => exact ⟨k + 1, _, [], by go_num, by omega, rfl, by simp; omega, by simp, HRd, J4⟩
              case measure => simp [intOf]; omega
      · obtain rfl : k = E.length := by omega
        obtain ⟨hacc, hF, herr⟩ := HOk.out acc own (by rw [Hrd.out, List.drop_length]; rfl)
        have HF := Lib.hid hF
        have HAcc := Lib.hid hacc
        have HEr := Lib.hid herr
        have hs1 := HS1.out
        clear hacc hF herr HErr HOk HDr Hrd HB hlt
        obtain ⟨A, cA, rfl, _⟩ := own_slice J.own
        have hrow := (own_row none J.own).2
        have HRow := Lib.hid hrow
        clear hrow
        by_cases h100 : 100 < acc.length
        · have hd : decide ((100 : Int) < (acc.length : Int)) = true := by simp; omega
          have HE1 := Lib.hid (show errB l = 2 by rw [HEr.out, if_pos h100])
          have hz3 := Hz.out.of_block (J.old.block w.heap.size (by omega))
          have hold3 := Hb1.out.trans (J.old.mono (by omega))
          have z0 : wr.cell? ⟨w.heap.size, 0, none⟩ = some (.slice none 0 0) := hz3.cell (by omega)
          have z1 : wr.cell? ⟨w.heap.size, 1, none⟩ = some (.slice none 0 0) := hz3.cell (by omega)
          have f0 : wr.frozen? ⟨w.heap.size, 0, none⟩ = false := hz3.frozen _
          have f1 : wr.frozen? ⟨w.heap.size, 1, none⟩ = false := hz3.frozen _
          clear J HRow HAcc HF
          go_wp2
          obtain ⟨s0, s1, s2⟩ := setT2 hz3 (.slice none 0 0) (.slice none 0 0)
          refine bodyPost_ret (v := .tuple #[bookV none 0 0 none 0 0, .int .i64 2]) (by simp [results, Tryz.results33, go_sem, s1, s2]) rfl (.inr ⟨by rw [HE1.out]; decide, by rw [HE1.out], (hold3.setCell (by simp) _).setCell (by simp) _⟩)
        · have hd : decide ((100 : Int) < (acc.length : Int)) = false := by simp; omega
          have HE1 := Lib.hid (show errB l = 0 by rw [HEr.out, if_neg h100])
          have Hold3 := Lib.hid (Hb1.out.trans (J.old.mono (by omega)))
          have Hz3 := Lib.hid (Hz.out.of_block (J.old.block w.heap.size (by omega)))
          have hwsz : w.heap.size + 2 ≤ wr.heap.size := by have := J.old.size; omega
          have HLe : Hid (∀ k, k ≤ (Tx.bw (linesOf l)).length → leastB (lastK (Tx.bw (linesOf l)) k) acc [] = (Tx.bw (linesOf l)).getD k []) := Lib.hid fun k hk => by rw [HAcc.out]; exact leastB_bw _ HF.out k hk
          have HTw : Hid (∀ x, some x ∈ acc → x ≠ [] ∧ x ≠ [10]) := Lib.hid fun x hx => tok_word (linesOf l) HF.out x (by rw [← HAcc.out]; exact hx)
          have Hbl : (Tx.bw (linesOf l)).length ≤ 100 := by
            have h1 := bw_length (linesOf l)
            have h2 := toks_end_length (linesOf l) (cutB_ne _)
            rw [← HAcc.out] at h2
            omega
          have HWn : Hid (∀ x ∈ Tx.bw (linesOf l), x ≠ []) := Lib.hid fun x hx => (HTw.out x (by rw [HAcc.out]; exact (mem_all_toks _ x).2 hx)).1
          have HNf : Hid (∀ t, t ∈ acc → nofB (Tx.bw (linesOf l)) (tokW t) = numB (findIn (Tx.bw (linesOf l))) t) := Lib.hid fun t ht => nof_num (linesOf l) HF.out t (by rw [← HAcc.out]; exact ht)
          have HRis := Lib.hid (bw_rising (linesOf l))
          generalize hWS : Tx.bw (linesOf l) = ws at *
          have HWS := Lib.hid hWS
          generalize wr = V at *
          have W0 := WrB.start ws V
          clear hWS J HEr
          go_wp2_with fail
          generalize V.alloc (.cells #[.slice none 0 0, .slice none 0 0] 43) = W2 at W0 ⊢
          go_loopw [] (fun wx => ∃ (k : Nat) (Aw : Option Addr) (c : Nat), k ≤ ws.length ∧ WrB ws k V Aw c wx) (fun wx => ws.length - wordsIn V.heap.size wx)
          case atStart => exact ⟨0, none, 0, by omega, W0⟩
          case round =>
            clear W0
            obtain ⟨k, Aw, cw, hk, J⟩ := hrel
            generalize wr = W at *
            obtain ⟨k0, k1⟩ := J.cells
            have HRw : Hid (∀ j, j < acc.length → ∃ b o, A = some ⟨b, o, none⟩ ∧ W.cell? ⟨b, o + j, none⟩ = some (sv (tokW (acc.getD j none)))) := Lib.hid fun j hj => by
              obtain ⟨b, o, e, hb, hc⟩ := HRow.out (by omega)
              exact ⟨b, o, e, (J.old.cell (p := ⟨b, o + j, none⟩) hb).trans (hc j hj)⟩
            have HLst : Hid (∀ q, k = q + 1 → ∃ b o, Aw = some ⟨b, o, none⟩ ∧ W.cell? ⟨b, o + q, none⟩ = some (sv (ws.getD q []))) := Lib.hid fun q hq => by
              obtain ⟨b, o, e, hb, hc⟩ := (own_row [] J.own).2 (by omega)
              refine ⟨b, o, e, (hc q (by omega)).trans ?_⟩
              simp [List.getD_eq_getElem?_getD, hq]
            go_wp2_with fail
            go_loopw [9, 63] (fun s9 s63 wx => ∃ j : Nat, s63 = .int .i64 j ∧ j ≤ acc.length ∧ wx = W ∧ s9 = sv (leastB (lastK ws k) (acc.take j) [])) (fun _ s _ => acc.length - (intOf s).toNat)
            case atStart => exact ⟨0, rfl, by omega, rfl, rfl⟩
            case round =>
              obtain ⟨j, rfl, hj, rfl, rfl⟩ := hrel
              by_cases hjl : j < acc.length
              · have hjz : (j : Int) < (acc.length : Int) := by omega
                obtain ⟨b, o, rfl, d0⟩ := HRw.out j hjl
                cases ht : acc.getD j none with
                | none =>
                  have Hnx := Lib.hid (leastB_none (lastK ws k) acc j hjl ht)
                  rw [ht] at d0
                  have d1 : wr.cell? ⟨b, o + j, none⟩ = some (.string ⟨#[10]⟩) := d0
                  clear d0 HRw HRow
                  go_wp2
                  go_roundw
                  case rel => exact ⟨j + 1, by go_num, by omega, by simp, by rw [Hnx.out]⟩
                  case measure => simp [intOf]; omega
                | some x =>
                  rw [ht] at d0
                  have d1 : wr.cell? ⟨b, o + j, none⟩ = some (sv x) := d0
                  have Hnx := Lib.hid (leastB_some (lastK ws k) acc j hjl x ht)
                  obtain ⟨hx0, hx10⟩ := HTw.out x (by rw [← ht]; exact getD_mem acc none j hjl)
                  have b10 : (x == ([10] : Wd)) = false := bytes_no hx10
                  clear d0 ht hx0 hx10
                  generalize leastB (lastK ws k) (acc.take j) [] = m at *
                  rcases Nat.eq_zero_or_eq_succ_pred k with hk0 | hk0'
                  · subst hk0
                    by_cases hm : m = []
                    · have bm : m.isEmpty = true := by rw [hm]; rfl
                      have Hn2 := Lib.hid (Hnx.out.trans (if_pos ⟨(fun y hy => by cases hy), .inl hm⟩))
                      clear hm Hnx HTw HLe HWn HRw HRow
                      go_wp2
                      go_roundw
                      case rel => exact ⟨j + 1, by go_num, by omega, by simp, by rw [Hn2.out]⟩
                      case measure => simp [intOf]; omega
                    · have bm : m.isEmpty = false := by simpa using hm
                      by_cases hxm : x < m
                      · have bx : Op.bytesLess x m = true := by rw [bytesLess_eq]; simpa using hxm
                        have Hn2 := Lib.hid (Hnx.out.trans (if_pos ⟨(fun y hy => by cases hy), .inr hxm⟩))
                        clear hm hxm Hnx HTw HLe HWn HRw HRow
                        go_wp2
                        go_roundw
                        case rel => exact ⟨j + 1, by go_num, by omega, by simp, by rw [Hn2.out]⟩
                        case measure => simp [intOf]; omega
                      · have bx : Op.bytesLess x m = false := by rw [bytesLess_eq]; simpa using hxm
                        have Hn2 := Lib.hid (Hnx.out.trans (if_neg (fun h => h.2.elim hm hxm)))
                        clear hm hxm Hnx HTw HLe HWn HRw HRow
                        go_wp2
                        go_roundw
                        case rel => exact ⟨j + 1, by go_num, by omega, by simp, by rw [Hn2.out]⟩
                        case measure => simp [intOf]; omega
                  · obtain ⟨q, rfl⟩ : ∃ q, k = q + 1 := ⟨_, hk0'⟩
                    obtain ⟨bq, oq, e1, dq⟩ := HLst.out q rfl
                    have hlk : lastK ws (q + 1) = some (ws.getD q []) := by unfold lastK; rw [if_neg (by omega)]; rfl
                    have HLk := Lib.hid hlk
                    clear hk0' hlk
                    generalize ws.getD q [] = y at *
                    subst e1
                    by_cases hy : y < x
                    · have b1 : Op.bytesLess x y = false := by
                        rw [bytesLess_eq]
                        simpa using wd_le_of_lt hy
                      have b2 : (x == y) = false := bytes_no (fun e => by rw [e] at hy; exact wd_irrefl _ hy)
                      by_cases hm : m = []
                      · have bm : m.isEmpty = true := by rw [hm]; rfl
                        have Hn2 := Lib.hid (Hnx.out.trans (if_pos ⟨(fun z hz => by rw [HLk.out] at hz; cases hz; exact hy), .inl hm⟩))
                        clear hm Hnx HTw HLe HWn HRw HRow
                        go_wp2
                        go_roundw
                        case rel => exact ⟨j + 1, by go_num, by omega, by simp, by rw [Hn2.out]⟩
                        case measure => simp [intOf]; omega
                      · have bm : m.isEmpty = false := by simpa using hm
                        by_cases hxm : x < m
                        · have bx : Op.bytesLess x m = true := by rw [bytesLess_eq]; simpa using hxm
                          have Hn2 := Lib.hid (Hnx.out.trans (if_pos ⟨(fun z hz => by rw [HLk.out] at hz; cases hz; exact hy), .inr hxm⟩))
                          clear hm hxm Hnx HTw HLe HWn HRw HRow
                          go_wp2
                          go_roundw
                          case rel => exact ⟨j + 1, by go_num, by omega, by simp, by rw [Hn2.out]⟩
                          case measure => simp [intOf]; omega
                        · have bx : Op.bytesLess x m = false := by rw [bytesLess_eq]; simpa using hxm
                          have Hn2 := Lib.hid (Hnx.out.trans (if_neg (fun h => h.2.elim hm hxm)))
                          clear hm hxm Hnx HTw HLe HWn HRw HRow
                          go_wp2
                          go_roundw
                          case rel => exact ⟨j + 1, by go_num, by omega, by simp, by rw [Hn2.out]⟩
                          case measure => simp [intOf]; omega
                    · by_cases hxy : x = y
                      · have b2 : (x == y) = true := bytes_yes hxy
                        have Hn2 := Lib.hid (Hnx.out.trans (if_neg (fun h => hy (h.1 y HLk.out))))
                        clear hy hxy Hnx HTw HLe HWn HRw HRow
                        go_wp2
                        go_roundw
                        case rel => exact ⟨j + 1, by go_num, by omega, by simp, by rw [Hn2.out]⟩
                        case measure => simp [intOf]; omega
                      · have b1 : Op.bytesLess x y = true := by
                          rw [bytesLess_eq]
                          rcases wd_total y x with h | h
                          · rcases List.le_iff_lt_or_eq.1 h with h | h
                            · exact absurd h hy
                            · exact absurd h.symm hxy
                          · simpa using h
                        have Hn2 := Lib.hid (Hnx.out.trans (if_neg (fun h => hy (h.1 y HLk.out))))
                        clear hy hxy Hnx HTw HLe HWn HRw HRow
                        go_wp2
                        go_roundw
                        case rel => exact ⟨j + 1, by go_num, by omega, by simp, by rw [Hn2.out]⟩
                        case measure => simp [intOf]; omega
              · obtain rfl : j = acc.length := by omega
                rw [List.take_length, HLe.out k hk]
                clear HRw HLst HTw hjl
                by_cases hkl : k < ws.length
                · have hne : ws.getD k [] ≠ [] := HWn.out _ (getD_mem ws [] k hkl)
                  have bm : (ws.getD k []).isEmpty = false := by simpa using hne
                  have hmx : k + 1 ≤ maxLen := by unfold maxLen; omega
                  have J1 := J.on ((Below.refl _ wr).alloc (Nat.le_refl _) (.cells #[sv (ws.getD k [])] 9))
                  have HAp : Hid (∀ v' W', W'.ownsRow (V.heap.size + 1) 9 1 v' (k + 1) ((ws.take k).map sv ++ [sv (ws.getD k [])]) → (wr.alloc (.cells #[sv (ws.getD k [])] 9)).grownBy W' (Value.slice Aw k cw).ownBlock → _) := Lib.hid fun v' W' h2 hg => J1.app hkl h2 hg
                  have Hcnt := Lib.hid J.count
                  have hbig := J.big
                  generalize ws.getD k [] = x at *
                  clear hne J HLe HRow HWn
                  go_wp2_with (at_builtin; refine wpList_app1 _ rfl _ _ 41 rfl (V.heap.size + 1) 9 (.string ⟨#[]⟩) 16 Tryz.underlying41 infoStr rfl _ k ((ws.take k).map sv) rfl wr.heap.size (sv x) rfl J1.own (new1 _ _ _) (by simp) rfl hmx (by omega) (by simp; omega) ?_; intro v' w3 h2 h3 h4; obtain ⟨A', c', rfl, e0, ef, J4⟩ := HAp.out v' w3 h2 h3; clear h2 h3 h4 J1 HAp)
                  go_wp2
                  go_roundw
                  case rel => exact ⟨k + 1, A', c', by omega, J4⟩
                  case measure => rw [J4.count, Hcnt.out]; omega
                · obtain rfl : k = ws.length := by omega
                  have hnil : ws.getD ws.length [] = [] := by simp
                  rw [hnil]
                  have J4 := BkI.start J
                  clear J hnil HLe HWn k0 k1 hkl
                  go_wp2_with fail
                  go_loopw [108] (fun s108 wx => ∃ (i : Nat) (v : Value), s108 = .int .i64 i ∧ i ≤ acc.length ∧ BkI V ws Aw cw (nums (findIn ws) (acc.take i)) v wx) (fun s _ => acc.length - (intOf s).toNat)
                  case atStart => exact ⟨0, _, rfl, by omega, J4⟩
                  case round =>
                    clear J4
                    obtain ⟨i, v, rfl, hi, J⟩ := hrel
                    generalize wr = W at *
                    obtain ⟨k0, k1, k2⟩ := J.cells
                    by_cases hil : i < acc.length
                    · have hiz : (i : Int) < (acc.length : Int) := by omega
                      obtain ⟨b, o, rfl, d0⟩ : ∃ b o, A = some ⟨b, o, none⟩ ∧ W.cell? ⟨b, o + i, none⟩ = some (sv (tokW (acc.getD i none))) := by
                        obtain ⟨b, o, e, hb, hc⟩ := HRow.out (by omega)
                        exact ⟨b, o, e, (J.old.cell (p := ⟨b, o + i, none⟩) hb).trans (hc i hil)⟩
                      have HT1 : Hid (nums (findIn ws) (acc.take (i + 1)) = nums (findIn ws) (acc.take i) ++ [nofB ws (tokW (acc.getD i none))]) := Lib.hid (by
                        rw [HNf.out _ (getD_mem acc none i hil), List.take_succ_eq_append_getElem hil]
                        unfold nums
                        rw [List.map_append]
                        simp [hil])
                      have hTl : (nums (findIn ws) (acc.take i)).length ≤ 100 := by simp [nums]; omega
                      obtain ⟨At, ct, rfl, hct⟩ := own_slice J.text
                      generalize tokW (acc.getD i none) = x at *
                      have HN : Hid (∀ W', Below W.heap.size W W' → Calls Tryz.prog 62 #[.agg #[.slice Aw ws.length cw, .slice At (nums (findIn ws) (acc.take i)).length ct], sv x] W' fun e w' => e = .returned (.int .i64 (nofB ws x)) ∧ Below W.heap.size W w') := Lib.hid fun W' hW' => by
                        have hr := (own_row [] (J.on hW').words).2
                        exact (numberOf_any ws x Aw ws.length cw At _ ct W' hr rfl (by omega) HRis.out).mono fun e w' hh => ⟨hh.1, hW'.trans (hh.2.mono hW'.size)⟩
                      generalize hTT : nums (findIn ws) (acc.take i) = T at *
                      generalize nofB ws x = y at *
                      clear hTT HNf HRow HRis
                      have hbW := Below.refl W.heap.size W
                      have hlt := J.box.lt
                      go_wp2_with fail
                      refine wp_region_mix 6 [(true, 0), (true, 1), (true, 2), (true, 3), (false, 4), (false, 5)] (fun w' => w'.cell? ⟨V.heap.size, 0, none⟩ = some (.slice Aw ws.length cw) ∧ w'.cell? ⟨V.heap.size, 1, none⟩ = some (.slice At T.length ct)) (by kernel_rfl) (by kernel_rfl) ⟨k0, k1⟩ ?_
                      refine wpMix_on (v := ?_) _ at0 rfl ?_ ?_ ?_
                      rotate_left 1
                      · rintro W ⟨x0, x1⟩
                        go_simp
                        rfl
                      · exact fun _ _ _ h => h
                      simp only [Act.put, List.setIfInBounds_toArray, List.set_cons_zero, List.set_cons_succ]
                      refine wpMix_on (v := ?_) _ at1 rfl ?_ ?_ ?_
                      rotate_left 1
                      · rintro W ⟨x0, x1⟩
                        go_simp
                        rfl
                      · exact fun _ _ _ h => h
                      simp only [Act.put, List.setIfInBounds_toArray, List.set_cons_zero, List.set_cons_succ]
                      refine wpMix_on (v := ?_) _ at2 rfl ?_ ?_ ?_
                      rotate_left 1
                      · rintro W ⟨x0, x1⟩
                        go_simp
                        rfl
                      · exact fun _ _ _ h => h
                      simp only [Act.put, List.setIfInBounds_toArray, List.set_cons_zero, List.set_cons_succ]
                      refine wpMix_on (v := ?_) _ at3 rfl ?_ ?_ ?_
                      rotate_left 1
                      · rintro W ⟨x0, x1⟩
                        go_simp
                        rfl
                      · exact fun _ _ _ h => h
                      simp only [Act.put, List.setIfInBounds_toArray, List.set_cons_zero, List.set_cons_succ]
                      refine wpMix_call _ at4 rfl fun K' hK' => ?_
                      go_simp
                      go_at_call 62
                      with_reducible refine (HN.out _ hbW.drew).mono ?_
                      rintro e W1 ⟨rfl, hb1⟩
                      have J1 := J.on hb1
                      refine hK'.out _ _ ⟨J1.cells.1, J1.cells.2.1⟩ ?_
                      clear hK' HN k0 k1 k2 hbW J
                      have J2 := J1.on ((Below.refl _ W1).alloc (Nat.le_refl _) (.cells #[.int .i64 y] 3))
                      refine wpMix_call _ at5 rfl fun K' hK' => ?_
                      go_simp
                      refine hK'.out _ _ ⟨J2.cells.1, J2.cells.2.1⟩ ?_
                      clear hK'
                      refine wpMix_nil ?_
                      simp only [List.drop_succ_cons, List.drop_zero]
                      have hmx : T.length + 1 ≤ maxLen := by unfold maxLen; omega
                      have hbig := J1.big
                      have HAp : Hid (∀ v' W', W'.ownsRow (V.heap.size + 1) 3 1 v' (T.length + 1) (iv T ++ [.int .i64 y]) → (W1.alloc (.cells #[.int .i64 y] 3)).grownBy W' (Value.slice At T.length ct).ownBlock → _) := Lib.hid fun v' W' h2 hg => J2.app y h2 hg
                      go_wp2_with (at_builtin; refine wpList_app1 _ rfl _ _ 22 rfl (V.heap.size + 1) 3 (.int .i64 0) 8 Tryz.underlying22 infoIntT rfl _ T.length (iv T) rfl W1.heap.size (.int .i64 y) rfl J2.text (new1 _ _ _) (by simp) rfl hmx (by omega) (by simp; omega) ?_; intro v' w3 h2 h3 h4; obtain ⟨J4, e1, ef, e0⟩ := HAp.out v' w3 h2 h3; obtain ⟨A5, c5, rfl, hc5⟩ := own_slice h2; clear h2 h3 h4 J2 HAp)
                      go_wp2
                      go_roundw
                      case rel => exact ⟨i + 1, _, by go_num, by omega, by rw [HT1.out]; exact J4⟩
                      case measure => simp [intOf]; omega
                    · obtain rfl : i = acc.length := by omega
                      rw [List.take_length] at J
                      have HBt : Hid (nums (findIn ws) acc ++ [0] = bt (linesOf l)) := Lib.hid (by
                        unfold bt
                        rw [HWS.out, HAcc.out]
                        simp [nums, numB])
                      have hTl : (nums (findIn ws) acc).length ≤ 100 := by simp [nums]; omega
                      generalize nums (findIn ws) acc = T at *
                      obtain ⟨At, ct, rfl, hct⟩ := own_slice J.text
                      have J2 := J.on ((Below.refl _ W).alloc (Nat.le_refl _) (.cells #[.int .i64 0] 3))
                      have hmx : T.length + 1 ≤ maxLen := by unfold maxLen; omega
                      have hbig := J.big
                      have HAp : Hid (∀ v' W', W'.ownsRow (V.heap.size + 1) 3 1 v' (T.length + 1) (iv T ++ [.int .i64 0]) → (W.alloc (.cells #[.int .i64 0] 3)).grownBy W' (Value.slice At T.length ct).ownBlock → _) := Lib.hid fun v' W' h2 hg => J2.app 0 h2 hg
                      clear HNf HRow HRis J hi hil
                      go_wp2_with (at_builtin; refine wpList_app1 _ rfl _ _ 22 rfl (V.heap.size + 1) 3 (.int .i64 0) 8 Tryz.underlying22 infoIntT rfl _ T.length (iv T) rfl W.heap.size (.int .i64 0) rfl J2.text (new1 _ _ _) (by simp) rfl hmx (by omega) (by simp; omega) ?_; intro v' w3 h2 h3 h4; obtain ⟨J4, e1, ef, e0⟩ := HAp.out v' w3 h2 h3; obtain ⟨A5, c5, rfl, hc5⟩ := own_slice h2; have hz5 := Hz3.out.of_block (J4.old.block w.heap.size (by omega)); have z0 : _ = some (Value.slice none 0 0) := hz5.cell (i := 0) (by omega); have z1 : _ = some (Value.slice none 0 0) := hz5.cell (i := 1) (by omega); have f0 := hz5.frozen 0; have f1 := hz5.frozen 1; have z0' := (World.cell?_setCell_far w3 ⟨V.heap.size, 1, none⟩ ⟨w.heap.size, 0, none⟩ _ (by show V.heap.size ≠ w.heap.size; omega)).symm.trans z0; have z1' := (World.cell?_setCell_far w3 ⟨V.heap.size, 1, none⟩ ⟨w.heap.size, 1, none⟩ _ (by show V.heap.size ≠ w.heap.size; omega)).symm.trans z1; rw [World.frozen?_setCell] at f0 f1; clear h2 h3 h4 J2 HAp)
                      obtain ⟨s0, s1, s2⟩ := setT2 hz5 (.slice Aw ws.length cw) (.slice A5 (T.length + 1) c5)
                      have hw := ownsRow_setCell_below (ownsRow_setCell_below J4.words (a := ⟨w.heap.size, 0, none⟩) (by show w.heap.size < V.heap.size + 1; omega) (.slice Aw ws.length cw)) (a := ⟨w.heap.size, 1, none⟩) (by show w.heap.size < V.heap.size + 1; omega) (.slice A5 (T.length + 1) c5)
                      have ht := ownsRow_setCell_below (ownsRow_setCell_below J4.text (a := ⟨w.heap.size, 0, none⟩) (by show w.heap.size < V.heap.size + 1; omega) (.slice Aw ws.length cw)) (a := ⟨w.heap.size, 1, none⟩) (by show w.heap.size < V.heap.size + 1; omega) (.slice A5 (T.length + 1) c5)
                      have hl0 : List.length (T ++ [(0 : Int)]) = T.length + 1 := by simp
                      rw [hl0] at ht
                      obtain ⟨_, hr1⟩ := own_row [] hw
                      obtain ⟨hr3, hr2⟩ := iv_row ht
                      obtain ⟨_, _, e6, hcw⟩ := own_slice J4.words
                      cases e6
                      have hbb := Hold3.out.trans (J4.old.mono (by omega))
                      refine bodyPost_ret (v := .tuple #[bookV Aw ws.length cw A5 (T.length + 1) c5, .int .i64 0]) (by simp [results, Tryz.results33, go_sem, s1, s2]) rfl (.inl ⟨HE1.out, Aw, ws.length, cw, A5, T.length + 1, c5, rfl, ?_, hc5, (hbb.setCell (by simp) _).setCell (by simp) _⟩)
                      rw [HWS.out, ← HBt.out]
                      exact ⟨hr1, rfl, hcw, hr2, hr3⟩

end Go.Proofs.YtoejenejleocdabGreatDoor
