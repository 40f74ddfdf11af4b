/- What text.formed answers: have all words the form? -/
import Derived.Test.YtoeemehdkejhfaaDoorTc
import Derived.Test.YtoeemehdkejhfaaDoorTe
namespace Go.Proofs.YtoeemehdkejhfaaDoor
open Go.RowKit Tx

theorem isNo_pred (w : World) : PredAtRunes Tryd.prog 38 #[] isNo w := fun W x _ _ => by
  show Calls Tryd.prog 38 #[.int .i32 (x : Int)] W fun e w' => e = .returned (.bool (isNo x)) ∧ ∃ q, w' = W.drewN q
  by_cases h : x < 97
  · have hd : decide ((x : Int) < 97) = true := by simp; omega
    go_enter Tryd.func38, Tryd.ntmps38
    go_wp2
    go_ret
    exact ⟨bool_ret (by simp [isNo, h]), 0, rfl⟩
  · have hd : decide ((x : Int) < 97) = false := by simp; omega
    go_enter Tryd.func38, Tryd.ntmps38
    go_wp2
    go_ret
    refine ⟨bool_ret ?_, 0, rfl⟩
    unfold isNo
    rw [Bool.eq_iff_iff]; simp; omega

theorem noLetter_any (l : Wd) (w : World) :
    Calls Tryd.prog 37 #[sv l, .func (.func 38) #[] #[]] w fun e w' => e = .returned (.bool (!(l.all letter))) ∧ Below w.heap.size w w' := by
  have h := Tryd.strings_ContainsFunc_runes 38 #[] enters_no isNo ⟨l.toArray⟩ w (isNo_pred w)
  rw [contains_no] at h
  exact h
theorem noLetter_yes (l : Wd) (w : World) (hl : l.all letter = true) :
    Calls Tryd.prog 37 #[sv l, .func (.func 38) #[] #[]] w fun e w' => e = .returned (.bool false) ∧ Below w.heap.size w w' := by
  have h := noLetter_any l w
  rwa [hl] at h
theorem noLetter_no (l : Wd) (w : World) (hl : l.all letter = false) :
    Calls Tryd.prog 37 #[sv l, .func (.func 38) #[] #[]] w fun e w' => e = .returned (.bool true) ∧ Below w.heap.size w w' := by
  have h := noLetter_any l w
  rwa [hl] at h

theorem all_take {α : Type} (p : α → Bool) (l : List α) (d : α) (k : Nat) (hk : k < l.length) : (l.take (k + 1)).all p = ((l.take k).all p && p (l.getD k d)) := by
  rw [List.take_succ_eq_append_getElem hk, List.all_append, List.getD_eq_getElem?_getD, List.getElem?_eq_getElem hk]
  simp
theorem all_no {α : Type} (p : α → Bool) (l : List α) (d : α) (k : Nat) (hk : k < l.length) (h : p (l.getD k d) = false) : l.all p = false := by
  rw [List.getD_eq_getElem?_getD, List.getElem?_eq_getElem hk] at h
  rw [List.all_eq_false]
  exact ⟨l[k], List.getElem_mem hk, by simpa using h⟩

set_option maxHeartbeats 1000000 in
theorem formed_any (ws : List Wd) (A : Option Addr) (n c : Nat) (w : World) (hA : SRow w w.heap.size A ws) (hn : n = ws.length) (hb : n ≤ 4294967296) :
    Calls Tryd.prog 19 #[.slice A n c] w fun e w' => e = .returned (.bool (ws.all isWord)) ∧ Below w.heap.size w w' := by
  unfold SRow at hA
  rw [← hn] at hA
  have HT := Lib.hid (all_take isWord ws [])
  have HF := Lib.hid (all_no isWord ws [])
  rw [← hn] at HT HF
  have Hn := Lib.hid hn
  clear hn
  have HA := Lib.hid hA
  clear hA
  go_enter Tryd.func19, Tryd.ntmps19
  go_wp2
  go_loopw [7] (fun s wr => ∃ k : Nat, s = .int .i64 k ∧ k ≤ n ∧ Hid ((ws.take k).all isWord = true) ∧ Below w.heap.size w wr) (fun s _ => n - (intOf s).toNat)
  case atStart => exact ⟨0, rfl, by omega, Lib.hid (by simp), Below.refl _ _⟩
  case round =>
    obtain ⟨k, rfl, hk, J, hbel⟩ := hrel
    by_cases hlt : k < n
    · obtain ⟨b, o, rfl, hbb, hc⟩ := HA.out (by omega)
      have hc1 : wr.cell? ⟨b, o + k, none⟩ = some (sv (ws.getD k [])) := (hbel.cell (p := ⟨b, o + k, none⟩) hbb).trans (hc k hlt)
      have HT1 := Lib.hid (HT.out k hlt)
      have HF1 := Lib.hid (HF.out k hlt)
      generalize ws.getD k [] = x at hc1 HT1 HF1
      clear hc HT HF
      by_cases h1 : x.length < 1
      · have hd : decide ((x.length : Int) < 1) = true := by simp; omega
        have HX := Lib.hid (HF1.out (by unfold isWord; simp; omega))
        clear HF1 HT1
        go_wp2
        go_ret
        exact ⟨bool_ret HX.out.symm, hbel⟩
      · have hd : decide ((x.length : Int) < 1) = false := by simp; omega
        by_cases h8 : 8 < x.length
        · have hd2 : decide (8 < (x.length : Int)) = true := by simp; omega
          have HX := Lib.hid (HF1.out (by unfold isWord; simp; omega))
          clear HF1 HT1
          go_wp2
          go_ret
          exact ⟨bool_ret HX.out.symm, hbel⟩
        · have hd2 : decide (8 < (x.length : Int)) = false := by simp; omega
          cases hl : x.all letter
          · have HX := Lib.hid (HF1.out (by unfold isWord; rw [hl]; simp))
            have HL := Lib.hid hl
            clear HF1 HT1 hl
            go_wp2_with fail
            with_reducible refine (noLetter_no x _ HL.out).mono ?_
            rintro e w1 ⟨rfl, hb1⟩
            go_wp2
            go_ret
            exact ⟨bool_ret HX.out.symm, hbel.trans (hb1.mono hbel.size)⟩
          · have HX := Lib.hid (HT1.out.trans (by rw [J.out]; unfold isWord; rw [hl]; simp; omega : _ = true))
            have HL := Lib.hid hl
            clear HF1 HT1 hl
            go_wp2_with fail
            with_reducible refine (noLetter_yes x _ HL.out).mono ?_
            rintro e w1 ⟨rfl, hb1⟩
            go_wp2
            go_roundw
            case rel => exact ⟨k + 1, by go_num, by omega, HX, hbel.trans (hb1.mono hbel.size)⟩
            case measure => simp [intOf]; omega
    · obtain rfl : k = n := by omega
      have HX := Lib.hid (show ws.all isWord = true by have := J.out; rwa [Hn.out, List.take_length] at this)
      go_wp2
      go_ret
      exact ⟨bool_ret HX.out.symm, hbel⟩

end Go.Proofs.YtoeemehdkejhfaaDoor
