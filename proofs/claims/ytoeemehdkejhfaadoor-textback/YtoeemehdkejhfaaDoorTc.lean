/- What text.cut makes of a text: its lines, cut into words. -/
import Derived.Test.YtoeemehdkejhfaaDoorRows
import Derived.Test.YtoeemehdkejhfaaDoorSh
import Derived.Test.YtoeemehdkejhfaaDoorTb
import Derived.Test.YtoeemehdkejhfaaDoorTm
import Derived.WalkKit
import Derived.WalkSpells
import Derived.WalkLawsBesides
import Derived.Lib.Hide
namespace Go.Proofs.YtoeemehdkejhfaaDoor
open Go.RowKit Tx

theorem infoStr : (Tryd.prog.info? 9).map (fun i => (i.zero, i.size, i.bytes)) = some (some (.string ⟨#[]⟩), 1, 16) := by kernel_rfl
theorem infoSs : (Tryd.prog.info? 22).map (fun i => (i.zero, i.size, i.bytes)) = some (some (.slice none 0 0), 1, 24) := by kernel_rfl
theorem infoInt : (Tryd.prog.info? 3).map (fun i => (i.zero, i.size, i.bytes)) = some (some (.int .i64 0), 1, 8) := by kernel_rfl

theorem enters_sp : ∀ args w, (callFunc 34 args).run Tryd.prog w = .ok (.enter 34 args) w := enters_of Tryd.func34 (by kernel_rfl) rfl
theorem enters_no : ∀ args w, (callFunc 38 args).run Tryd.prog w = .ok (.enter 38 args) w := enters_of Tryd.func38 (by kernel_rfl) rfl

theorem bool_ret {a b : Bool} (h : a = b) : Ending.returned (.bool a) = .returned (.bool b) := by rw [h]

theorem isSpace_pred (w : World) : PredAtRunes Tryd.prog 34 #[] isSp w := fun W x _ _ => by
  show Calls Tryd.prog 34 #[.int .i32 (x : Int)] W fun e w' => e = .returned (.bool (isSp x)) ∧ ∃ q, w' = W.drewN q
  go_enter Tryd.func34, Tryd.ntmps34
  go_wp2
  go_ret
  refine ⟨bool_ret ?_, 0, rfl⟩
  unfold isSp
  rw [Bool.eq_iff_iff]; simp; omega

theorem toArray_data (x : ByteArray) : (⟨x.data.toList.toArray⟩ : ByteArray) = x := by cases x; simp

/-- the words of one line -/
theorem fields_any (l : Wd) (w : World) (hl : l.length ≤ 4294967000) :
    Calls Tryd.prog 33 #[sv l, .func (.func 34) #[] #[]] w fun e w' =>
      ∃ A, e = .returned (.slice (some ⟨A, 0, none⟩) (fieldsB l).length (fieldsB l).length) ∧ w.heap.size ≤ A ∧ A < w'.heap.size ∧ (∀ j, j < (fieldsB l).length → w'.cell? ⟨A, 0 + j, none⟩ = some (sv ((fieldsB l).getD j []))) ∧ Below w.heap.size w w' := by
  have hf := goFields_fb ⟨l.toArray⟩
  simp only at hf
  have hlen : (Lib.goFieldsP isSp ⟨l.toArray⟩).length = (fieldsB l).length := by rw [← hf, List.length_map]
  have hmap : (Lib.goFieldsP isSp ⟨l.toArray⟩).map Value.string = (fieldsB l).map sv := by
    rw [← hf, List.map_map]
    exact List.map_congr_left fun x _ => by simp [sv]
  refine (Tryd.strings_FieldsFunc_runes 34 #[] enters_sp isSp ⟨l.toArray⟩ w (by simpa [ByteArray.size] using (by omega : l.length ≤ 4294967296)) (isSpace_pred w)).mono ?_
  rintro e w' ⟨A, he, hA, hown, hb⟩
  rw [hlen] at he hown
  rw [hmap] at hown
  obtain ⟨_, hr⟩ := own_row [] hown
  have hlt : A < w'.heap.size := (hown.lt A rfl).2
  refine ⟨A, he, hA, hlt, fun j hj => ?_, hb⟩
  obtain ⟨b, o, ea, _, hc⟩ := hr (by omega)
  injection ea with ea
  injection ea with e1 e2 _
  subst e1 e2
  exact hc j hj

/-- how the library splits: at each end of a line -/
theorem split_any (l : Wd) (m : Int) (w : World) (hl : l.length ≤ 4294967000) (hm : w.cell? ⟨0, 0, none⟩ = some (.int .i64 m)) :
    Calls Tryd.prog 26 #[sv l, .string ⟨#[10]⟩] w fun e w' =>
      e = .returned (.slice (some ⟨w.heap.size, 0, none⟩) (sb l).length (sb l).length) ∧ w' = w.alloc (.cells ((sb l).map sv).toArray 9) := by
  have hK : (Lib.splitB ⟨#[10]⟩ 0 (Lib.countB ⟨l.toArray⟩ ⟨#[10]⟩) ⟨l.toArray⟩).map (·.data.toList) = sb l := by
    rw [Lib.splitB_data]
    exact splitK_sb _ l rfl
  have hlen : Lib.countB ⟨l.toArray⟩ ⟨#[10]⟩ + 1 = (sb l).length := by
    rw [← hK, List.length_map, Lib.splitB_all ⟨#[10]⟩ (by decide) 0 _ _ rfl]
  have hmap : (Lib.splitB ⟨#[10]⟩ 0 (Lib.countB ⟨l.toArray⟩ ⟨#[10]⟩) ⟨l.toArray⟩).map Value.string = (sb l).map sv := by
    rw [← hK, List.map_map]
    exact List.map_congr_left fun x _ => by simp [sv]
  have h := Tryd.strings_Split ⟨l.toArray⟩ ⟨#[10]⟩ m w (by simpa [ByteArray.size] using (by omega : l.length < 4294967281)) hm (by decide)
  rw [hlen, hmap] at h
  exact h

def CutPost (l : Wd) (w : World) (e : Ending) (w' : World) : Prop := ∃ A c, e = .returned (.slice A (cutB l).length c) ∧ LRow w' w'.heap.size A (cutB l) ∧ Below w.heap.size w w'

theorem cut_take (l : Wd) (k : Nat) (hk : k < (sb l).length) : (cutB l).take (k + 1) = (cutB l).take k ++ [fieldsB ((sb l).getD k [])] := by
  have h1 : k < (cutB l).length := by unfold cutB; rw [List.length_map]; exact hk
  rw [List.take_succ_eq_append_getElem h1]
  congr 2
  simp [cutB, hk]
theorem sb_part : ∀ (l : Wd) (k : Nat), ((sb l).getD k []).length ≤ l.length
  | [], k => by cases k <;> simp [sb]
  | c :: r, k => by
    unfold sb
    split
    · cases k with
      | zero => simp
      | succ k => have := sb_part r k; simp only [List.getD_cons_succ, List.length_cons]; omega
    · cases h : sb r with
      | nil => cases k <;> simp
      | cons x t =>
        have := sb_part r k
        rw [h] at this
        cases k with
        | zero => simp only [List.getD_cons_zero, List.length_cons] at this ⊢; omega
        | succ k => simp only [List.getD_cons_succ, List.length_cons] at this ⊢; omega

set_option maxHeartbeats 1000000 in
theorem cut_any (l : Wd) (m : Int) (w : World) (hl : l.length ≤ 4294967000) (hm : w.cell? ⟨0, 0, none⟩ = some (.int .i64 m)) : Calls Tryd.prog 16 #[sv l] w (CutPost l w) := by
  have HC := Lib.hid (cut_take l)
  have HP := Lib.hid (sb_part l)
  have hn1 := sb_length l
  have Hlen := Lib.hid (show (cutB l).length = (sb l).length by unfold cutB; rw [List.length_map])
  have Hrow := Lib.hid (show Row (w.alloc (.cells ((sb l).map sv).toArray 9)) (w.heap.size + 1) (some ⟨w.heap.size, 0, none⟩) (sb l).length (fun i => sv ((sb l).getD i [])) from
    Row.of_rowIs (by
      have h := World.rowIs_alloc w ((sb l).map sv).toArray 9 (fun i => sv ((sb l).getD i [])) (fun i hi => by simp at hi; simp [hi])
      simpa using h) (by omega))
  go_enter Tryd.func16, Tryd.ntmps16
  go_wp2_with fail
  refine (split_any l m _ hl hm).mono ?_
  rintro e w' ⟨rfl, rfl⟩
  generalize hN : (sb l).length = n at *
  have HN := Lib.hid hN
  clear hN hm
  generalize hW : w.alloc (.cells ((sb l).map sv).toArray 9) = W at *
  have hWs : W.heap.size = w.heap.size + 1 := by rw [← hW]; simp
  have hWb : Below w.heap.size w W := by rw [← hW]; exact (Below.refl _ w).alloc (Nat.le_refl _) _
  clear hW
  have HWs := Lib.hid hWs
  clear hWs
  go_wp2_with fail
  go_loopw [3, 9] (fun s3 s9 wr => ∃ (k : Nat) (xs : List Value), s9 = .int .i64 k ∧ k ≤ n ∧ LOwn (w.heap.size + 1) 22 s3 ((cutB l).take k) xs wr ∧ Below (w.heap.size + 1) W wr) (fun _ s _ => n - (intOf s).toNat)
  case atStart => exact ⟨0, [], rfl, by omega, LOwn.nil _ _ _, Below.refl _ _⟩
  case round =>
    obtain ⟨k, xs, rfl, hk, J, hb⟩ := hrel
    have hr := Hrow.out.below hb
    by_cases hlt : k < n
    · obtain ⟨b0, o0, ea, hb0, hc⟩ := hr (by omega)
      injection ea with ea
      injection ea with e1 e2 _
      subst e1 e2
      have hc1 : wr.cell? ⟨w.heap.size, 0 + k, none⟩ = some (sv ((sb l).getD k [])) := hc k hlt
      rw [Nat.zero_add] at hc1
      have hp := HP.out k
      generalize hpt : (sb l).getD k [] = pt at *
      have HPT := Lib.hid hpt
      clear hpt hc hr
      go_wp2_with fail
      have hpl : pt.length ≤ 4294967000 := Nat.le_trans hp hl
      with_reducible refine (fields_any pt _ hpl).mono ?_
      rintro e w1 ⟨A, rfl, hA, hAlt, hcells, hb1⟩
      have HC1 := Lib.hid hcells
      clear hcells
      have Hls := Lib.hid (HC.out k hlt)
      rw [HPT.out] at Hls
      have hlk : ((cutB l).take k).length ≤ k := List.length_take_le _ _
      generalize (cutB l).take k = ls at *
      have J1 := (J.below hb1).below ((Below.refl _ w1).alloc (Nat.le_refl _) (.cells #[.slice (some ⟨A, 0, none⟩) (fieldsB pt).length (fieldsB pt).length] 22))
      have hfl := fb_length pt []
      have hfl : (fieldsB pt).length ≤ 4294967001 := by unfold fieldsB; omega
      have hsz := hb1.size
      have hsz0 : w.heap.size + 1 ≤ wr.heap.size := by have := hb.size; have := HWs.out; omega
      have hmx : ls.length + 1 ≤ maxLen := by unfold maxLen; omega
      go_wp2_with (at_builtin; refine wpList_app1 _ rfl _ _ 38 rfl (w.heap.size + 1) 22 (.slice none 0 0) 24 Tryd.underlying38 infoSs rfl _ ls.length xs rfl w1.heap.size (.slice (some ⟨A, 0, none⟩) (fieldsB pt).length (fieldsB pt).length) rfl J1.own (new1 _ _ _) (by simp) rfl hmx (by omega) (by simp; omega) ?_; intro v' w2 h2 h3 h4)
      have J2 : LOwn (w.heap.size + 1) 22 v' (ls ++ [fieldsB pt]) (xs ++ [.slice (some ⟨A, 0, none⟩) (fieldsB pt).length (fieldsB pt).length]) w2 := by
        refine J1.app (fieldsB pt) (some ⟨A, 0, none⟩) (fieldsB pt).length (.inr ⟨A, 0, rfl, by simp; omega, ?_, fun j hj => ?_⟩) h3 h4 h2
        · intro he
          have := (J.own.lt A he.symm).2
          omega
        · rw [World.cell?_alloc_lt _ _ _ hAlt]
          exact HC1.out j hj
      have hb2 : Below (w.heap.size + 1) W w2 := by
        have hx : Below (w.heap.size + 1) W w1 := hb.trans (hb1.mono hsz0)
        exact (hx.alloc (by omega) _).grown h3 (by simp; omega) (fun g hg => (J1.own.lt g hg).1)
      clear J1 h2 h3 h4 HC1
      go_wp2
      go_roundw
      case rel => exact ⟨k + 1, _, by go_num, by omega, by rw [Hls.out]; exact J2, hb2⟩
      case measure => simp [intOf]; omega
    · obtain rfl : k = n := by omega
      obtain ⟨A, c, rfl, _⟩ := own_slice J.own
      have hfull : (cutB l).take k = cutB l := by rw [← Hlen.out]; exact List.take_length
      have HF := Lib.hid hfull
      clear hfull hr
      go_wp2
      go_ret
      rw [HF.out] at J ⊢
      exact ⟨A, c, rfl, J.row rfl, hWb.trans (hb.mono (by omega))⟩

end Go.Proofs.YtoeemehdkejhfaaDoor
