/- The walk of text.numbers. -/
import Derived.Test.YtoeemehdkejhfaaDoorTh
namespace Go.Proofs.YtoeemehdkejhfaaDoor
open Go.RowKit Tx

set_option maxHeartbeats 2000000 in
theorem numbers_any (ws : List Wd) (ls : List (List Wd)) (A : Option Addr) (n c : Nat) (A2 : Option Addr) (n2 c2 : Nat) (w : World) (hA : SRow w w.heap.size A ws) (hn : n = ws.length) (hL : LRow w w.heap.size A2 ls) (hn2 : n2 = ls.length)
    (hb : n ≤ 4294967296) (hb2 : n2 ≤ 4294967296) (hb3 : (toks ls).length ≤ 8589934592) :
    Calls Tryd.prog 22 #[.slice A n c, .slice A2 n2 c2] w (NumPost ws ls w) := by
  obtain ⟨a, cs, hR, hS⟩ := hL
  rw [← hn2] at hR hS
  have HR := Lib.hid hR
  have HS := Lib.hid hS
  have HA := Lib.hid hA
  have Hn := Lib.hid hn
  have Hn2 := Lib.hid hn2
  have HT := Lib.hid (toks_take ls)
  have HI := Lib.hid (allIn_take (findIn ws) ls)
  have HX := Lib.hid (allIn_no (findIn ws) ls)
  have HTL := Lib.hid (toks_take_le ls)
  rw [← hn2] at HT HI HX
  clear hR hS hA hn hn2
  go_enter Tryd.func22, Tryd.ntmps22
  go_wp2
  go_loopw [6, 15] (fun s6 s15 wr => ∃ i : Nat, s15 = .int .i64 i ∧ i ≤ n2 ∧ Hid (allIn (findIn ws) (ls.take i) = true) ∧ NI ws (toks (ls.take i)) w s6 wr) (fun _ s _ => n2 - (intOf s).toNat)
  case atStart => exact ⟨0, rfl, by omega, Lib.hid (by simp [allIn]), ⟨World.ownsRow_nil _ _ _ _, Below.refl _ _⟩⟩
  case round =>
    obtain ⟨i, rfl, hi, Hin, J⟩ := hrel
    by_cases hlt : i < n2
    · obtain ⟨b0, o0, rfl, hb0, hc0⟩ := HR.out (by omega)
      have hc1 : wr.cell? ⟨b0, o0 + i, none⟩ = some (.slice (a i) (ls.getD i []).length (cs i)) := (J.old.cell (p := ⟨b0, o0 + i, none⟩) hb0).trans (hc0 i hlt)
      have HLr := Lib.hid (HS.out i hlt)
      have HT1 := Lib.hid (HT.out i hlt)
      have HI1 := Lib.hid (HI.out i hlt)
      have HX1 := Lib.hid (fun j => HX.out i j hlt)
      have hT1 := HTL.out (i + 1)
      rw [HT1.out] at hT1
      have hT0 := HTL.out i
      generalize ls.getD i [] = L at *
      generalize a i = Ai at *
      generalize cs i = ci at *
      clear hc0 HT HI HX HTL HS
      simp only [List.length_append, List.length_map] at hT1
      have hLl : L.length ≤ 8589934592 := by omega
      go_upto_if 21 with fail
      go_cut [6, 15] from 15 to 45 (fun s6 s15 wx => s15 = .int .i64 i ∧ NI ws (toks (ls.take i) ++ (if i = 0 then [] else [none])) w s6 wx)
      case first =>
        by_cases h0 : i = 0
        · subst h0
          have hd : decide ((0 : Int) < ((0 : Nat) : Int)) = false := by simp
          go_wp2_with fail
          go_meet
          exact ⟨rfl, by simpa using J⟩
        · have hd : decide ((0 : Int) < (i : Int)) = true := by simp; omega
          have hmx : (toks (ls.take i)).length + 1 ≤ maxLen := by unfold maxLen; omega
          have hsz := J.old.size
          have J1 := J.on ((Below.refl _ wr).alloc (Nat.le_refl _) (.cells #[.int .i64 1] 3))
          go_wp2_with (at_builtin; refine wpList_app1 _ rfl _ _ 23 rfl w.heap.size 3 (.int .i64 0) 8 Tryd.underlying23 infoInt rfl _ (toks (ls.take i)).length (iv (nums (findIn ws) (toks (ls.take i)))) rfl wr.heap.size (.int .i64 1) rfl J1.own (new1 _ _ _) (by simp) rfl hmx (by omega) (by simp; omega) ?_; intro v' w2 h2 h3 h4)
          go_meet
          refine ⟨rfl, ?_⟩
          rw [if_neg h0]
          exact J1.app none 1 rfl h2 h3
      case rest =>
        clear J hc1
        obtain ⟨rfl, J⟩ := hcut
        generalize hTs : toks (ls.take i) ++ (if i = 0 then [] else [none]) = ts at *
        have hts : ts.length + L.length ≤ 8589934592 := by
          have := congrArg List.length hTs
          rw [List.length_append] at this
          omega
        clear hTs
        go_wp2_with fail
        go_loopw [6, 27] (fun s6 s27 wx => ∃ j : Nat, s27 = .int .i64 j ∧ j ≤ L.length ∧ Hid ((L.take j).all (fun x => (findIn ws x).isSome) = true) ∧ NI ws (ts ++ (L.take j).map some) w s6 wx) (fun _ s _ => L.length - (intOf s).toNat)
        case atStart => exact ⟨0, rfl, by omega, Lib.hid (by simp), by simpa using J⟩
        case round =>
          clear J
          obtain ⟨j, rfl, hj, Hj, J⟩ := hrel
          by_cases hjl : j < L.length
          · obtain ⟨b1, o1, rfl, hb1, hc⟩ := HLr.out (by omega)
            have hc1 : wr.cell? ⟨b1, o1 + j, none⟩ = some (sv (L.getD j [])) := (J.old.cell (p := ⟨b1, o1 + j, none⟩) hb1).trans (hc j hjl)
            have HX2 := Lib.hid (HX1.out j hjl)
            have HM := Lib.hid (map_take_some L j hjl)
            have HAT := Lib.hid (all_take' (fun x => (findIn ws x).isSome) L [] j hjl)
            have hlj : ((L.take j).map some).length ≤ j := by rw [List.length_map]; exact List.length_take_le _ _
            generalize L.getD j [] = x at *
            clear hc
            cases hf : findIn ws x with
            | none =>
              have HN := Lib.hid (HX2.out hf)
              have HF := Lib.hid hf
              have HA2 := Lib.hid ((HA.out.below J.old).more J.old.size)
              clear hf HX2 HAT
              go_wp2_with fail
              with_reducible refine (bs_no ws A n c x _ HA2.out Hn.out hb HF.out).mono ?_
              rintro e w3 ⟨rfl, hb3'⟩
              have hold := J.old.trans (hb3'.mono J.old.size)
              clear J
              go_wp2
              go_ret2
              exact .inr ⟨HN.out, rfl, hold⟩
            | some p =>
              have hpn : p < n := by rw [Hn.out]; exact (findIn_some hf).1
              have HF := Lib.hid hf
              have HG := Lib.hid (show (L.take (j + 1)).all (fun x => (findIn ws x).isSome) = true by rw [HAT.out, Hj.out, hf]; rfl)
              have HA2 := Lib.hid ((HA.out.below J.old).more J.old.size)
              clear hf HX2 HAT
              go_wp2_with fail
              with_reducible refine (bs_yes ws A n c x p _ HA2.out Hn.out hb HF.out).mono ?_
              rintro e w3 ⟨rfl, hb3'⟩
              have J3 := J.on hb3'
              clear J hb3' HA2
              have hmx : (ts ++ (L.take j).map some).length + 1 ≤ maxLen := by rw [List.length_append]; unfold maxLen; omega
              have hby : ((ts ++ (L.take j).map some).length + 1) * 8 ≤ 140737488355328 := by rw [List.length_append]; omega
              have hsz := J3.old.size
              have J4 := J3.on ((Below.refl _ w3).alloc (Nat.le_refl _) (.cells #[.int .i64 ((p : Int) + 2)] 3))
              go_wp2_with (at_builtin; refine wpList_app1 _ rfl _ _ 23 rfl w.heap.size 3 (.int .i64 0) 8 Tryd.underlying23 infoInt rfl _ (ts ++ (L.take j).map some).length (iv (nums (findIn ws) (ts ++ (L.take j).map some))) rfl w3.heap.size (.int .i64 ((p : Int) + 2)) rfl J4.own (new1 _ _ _) (by simp) rfl hmx hby (by simp; omega) ?_; intro v' w2 h2 h3 h4)
              have J5 := J4.app (some x) ((p : Int) + 2) (by simp [numB, HF.out]) h2 h3
              rw [List.append_assoc, ← HM.out] at J5
              clear J3 J4 h2 h3 h4
              go_wp2
              go_roundw
              case rel => exact ⟨j + 1, by go_num, by omega, HG, J5⟩
              case measure => simp [intOf]; omega
          · obtain rfl : j = L.length := by omega
            rw [List.take_length] at J
            have HG := Lib.hid (show allIn (findIn ws) (ls.take (i + 1)) = true by rw [HI1.out, Hin.out]; have := Hj.out; rw [List.take_length] at this; rw [this]; rfl)
            have HTT := Lib.hid HT1.out
            go_wp2
            go_roundw
            case rel => exact ⟨i + 1, by go_num, by omega, HG, by rw [HTT.out]; exact J⟩
            case measure => simp [intOf]; omega
    · obtain rfl : i = n2 := by omega
      have HG := Lib.hid (show allIn (findIn ws) ls = true by have := Hin.out; rwa [Hn2.out, List.take_length] at this)
      have HF := Lib.hid (show ls.take i = ls by rw [Hn2.out, List.take_length])
      go_wp2
      go_ret2
      rw [HF.out] at J
      exact .inl ⟨HG.out, _, rfl, J.own, J.old⟩

end Go.Proofs.YtoeemehdkejhfaaDoor
