import Derived.Test.YtoejenejleocdabGreatDoorJt
import Derived.Test.YtoejenejleocdabGreatDoorJb
import Derived.Sort.Row
import Derived.Sort.Grow
import Derived.Sort.EncStr
import Derived.Test.YtoejenejleocdabGreatDoorRows
import Derived.Test.YtoejenejleocdabGreatDoorSh
import Derived.WalkKit
import Derived.WalkSpells
import Derived.WalkLawsBesides
import Derived.Lib.Hide
import Derived.Deep.CutRange
/- Words for memory: rows of strings, of numbers, of rows; rows of the call's own that grow. No program is named here. -/
namespace Go.Proofs.YtoejenejleocdabGreatDoor
open Go.RowKit Tx

/-- a string's value -/
abbrev sv (w : Wd) : Value := .string ⟨w.toArray⟩
/-- words in a row, numbers in a row, lines of words in a row of rows -/
def SRow (w : World) (B : Nat) (A : Option Addr) (ws : List Wd) : Prop := Row w B A ws.length (fun i => sv (ws.getD i []))
def lv (ls : List (List Wd)) (a : Nat → Option Addr) (c : Nat → Nat) (i : Nat) : Value := .slice (a i) (ls.getD i []).length (c i)
def LRow (w : World) (B : Nat) (A : Option Addr) (ls : List (List Wd)) : Prop :=
  ∃ (a : Nat → Option Addr) (c : Nat → Nat), Row w B A ls.length (lv ls a c) ∧ ∀ i, i < ls.length → SRow w B (a i) (ls.getD i [])

theorem SRow.below {w w' : World} {B : Nat} {A : Option Addr} {ws : List Wd} (h : SRow w B A ws) (hb : Below B w w') : SRow w' B A ws := Row.below h hb
theorem SRow.more {w : World} {B B' : Nat} {A : Option Addr} {ws : List Wd} (h : SRow w B A ws) (hB : B ≤ B') : SRow w B' A ws := Row.more h hB
theorem LRow.below {w w' : World} {B : Nat} {A : Option Addr} {ls : List (List Wd)} (h : LRow w B A ls) (hb : Below B w w') : LRow w' B A ls := by
  obtain ⟨a, c, h1, h2⟩ := h
  exact ⟨a, c, h1.below hb, fun i hi => (h2 i hi).below hb⟩
theorem LRow.more {w : World} {B B' : Nat} {A : Option Addr} {ls : List (List Wd)} (h : LRow w B A ls) (hB : B ≤ B') : LRow w B' A ls := by
  obtain ⟨a, c, h1, h2⟩ := h
  exact ⟨a, c, h1.more hB, fun i hi => (h2 i hi).more hB⟩
/-- on behind a call that leaves the old blocks alone -/
theorem SRow.on {w w' : World} {A : Option Addr} {ws : List Wd} (h : SRow w w.heap.size A ws) (hb : Below w.heap.size w w') : SRow w' w'.heap.size A ws := (h.below hb).more hb.size
theorem LRow.on {w w' : World} {A : Option Addr} {ls : List (List Wd)} (h : LRow w w.heap.size A ls) (hb : Below w.heap.size w w') : LRow w' w'.heap.size A ls := (h.below hb).more hb.size

/-- lines in the making: a row of the call's own (its cells: xs), whose cells lead to rows of words in other blocks -/
structure LOwn (base : Nat) (e : TypeId) (v : Value) (ls : List (List Wd)) (xs : List Value) (w : World) : Prop where
  own : w.ownsRow base e 1 v ls.length xs
  some_ : ∃ (a : Nat → Option Addr) (c : Nat → Nat), xs = (List.range ls.length).map (lv ls a c) ∧
    ∀ i, i < ls.length → (ls.getD i []).length = 0 ∨ ∃ g o, a i = some ⟨g, o, none⟩ ∧ g < w.heap.size ∧ some g ≠ v.ownBlock ∧ ∀ j, j < (ls.getD i []).length → w.cell? ⟨g, o + j, none⟩ = some (sv ((ls.getD i []).getD j []))

theorem LOwn.nil (base : Nat) (e : TypeId) (w : World) : LOwn base e (.slice none 0 0) [] [] w :=
  ⟨World.ownsRow_nil _ _ _ _, fun _ => none, fun _ => 0, rfl, fun i hi => absurd hi (by simp)⟩
theorem LOwn.row {base : Nat} {e : TypeId} {A : Option Addr} {n c : Nat} {ls : List (List Wd)} {xs : List Value} {w : World} (h : LOwn base e (.slice A n c) ls xs w) (hn : n = ls.length) : LRow w w.heap.size A ls := by
  obtain ⟨h1, a, c', rfl, h2⟩ := h
  subst hn
  refine ⟨a, c', Row.of_owns h1, fun i hi hp => ?_⟩
  rcases h2 i hi with h0 | ⟨g, o, ha, hg, _, hc⟩
  · omega
  · exact ⟨g, o, ha, hg, hc⟩
theorem LOwn.below {base : Nat} {e : TypeId} {v : Value} {ls : List (List Wd)} {xs : List Value} {w w' : World} (h : LOwn base e v ls xs w) (hb : Below w.heap.size w w') : LOwn base e v ls xs w' := by
  obtain ⟨h1, a, c, rfl, h2⟩ := h
  refine ⟨own_below h1 hb, a, c, rfl, fun i hi => ?_⟩
  rcases h2 i hi with h0 | ⟨g, o, ha, hg, hne, hc⟩
  · exact .inl h0
  · exact .inr ⟨g, o, ha, Nat.lt_of_lt_of_le hg hb.size, hne, fun j hj => (hb.cell (p := ⟨g, o + j, none⟩) hg).trans (hc j hj)⟩
/-- one line more -/
theorem LOwn.app {base : Nat} {e : TypeId} {v v' : Value} {ls : List (List Wd)} {xs : List Value} {w w' : World} (h : LOwn base e v ls xs w) (L : List Wd) (A : Option Addr) (cap : Nat)
    (hA : L.length = 0 ∨ ∃ g o, A = some ⟨g, o, none⟩ ∧ g < w.heap.size ∧ some g ≠ v.ownBlock ∧ ∀ j, j < L.length → w.cell? ⟨g, o + j, none⟩ = some (sv (L.getD j [])))
    (hg : w.grownBy w' v.ownBlock) (hv : v'.ownBlock = v.ownBlock ∨ v'.ownBlock = some w.heap.size)
    (hnew : w'.ownsRow base e 1 v' (ls.length + 1) (xs ++ [.slice A L.length cap])) : LOwn base e v' (ls ++ [L]) (xs ++ [.slice A L.length cap]) w' := by
  obtain ⟨h1, a, c, rfl, h2⟩ := h
  have keep : ∀ g o, g < w.heap.size → some g ≠ v.ownBlock → w'.cell? ⟨g, o, none⟩ = w.cell? ⟨g, o, none⟩ := fun g o hlt hne => hg.cell_far ⟨g, o, none⟩ hlt hne
  have hne' : ∀ g, g < w.heap.size → some g ≠ v.ownBlock → some g ≠ v'.ownBlock := fun g hlt hne he => by
    rcases hv with hv | hv
    · exact hne (by rw [he, hv])
    · rw [hv] at he; injection he with he; omega
  refine ⟨by simpa using hnew, fun i => if i < ls.length then a i else A, fun i => if i < ls.length then c i else cap, ?_, ?_⟩
  · rw [List.length_append, List.length_singleton, List.range_succ, List.map_append]
    have e1 : (List.range ls.length).map (lv (ls ++ [L]) (fun i => if i < ls.length then a i else A) (fun i => if i < ls.length then c i else cap)) = (List.range ls.length).map (lv ls a c) := by
      apply List.map_congr_left
      intro i hi
      have hi' := List.mem_range.1 hi
      simp only [lv, if_pos hi', getD_snoc_lt ls L [] i hi']
    rw [e1]
    simp [lv]
  · intro i hi
    simp only [List.length_append, List.length_singleton] at hi
    by_cases hlt : i < ls.length
    · simp only [getD_snoc_lt ls L [] i hlt, if_pos hlt]
      rcases h2 i hlt with h0 | ⟨g, o, ha, hgl, hne, hc⟩
      · exact .inl h0
      · exact .inr ⟨g, o, ha, Nat.lt_of_lt_of_le hgl hg.size, hne' g hgl hne, fun j hj => (keep g _ hgl hne).trans (hc j hj)⟩
    · obtain rfl : i = ls.length := by omega
      simp only [getD_snoc_eq ls L [], if_neg hlt]
      rcases hA with h0 | ⟨g, o, ha, hgl, hne, hc⟩
      · exact .inl h0
      · exact .inr ⟨g, o, ha, Nat.lt_of_lt_of_le hgl hg.size, hne' g hgl hne, fun j hj => (keep g _ hgl hne).trans (hc j hj)⟩

end Go.Proofs.YtoejenejleocdabGreatDoor

/- What text.cut makes of a text: its lines, cut into words. -/
namespace Go.Proofs.YtoejenejleocdabGreatDoor
open Go.RowKit Tx

theorem infoStr : (Tryz.prog.info? 9).map (fun i => (i.zero, i.size, i.bytes)) = some (some (.string ⟨#[]⟩), 1, 16) := by kernel_rfl
theorem infoSs : (Tryz.prog.info? 41).map (fun i => (i.zero, i.size, i.bytes)) = some (some (.slice none 0 0), 1, 24) := by kernel_rfl
theorem infoIntT : (Tryz.prog.info? 3).map (fun i => (i.zero, i.size, i.bytes)) = some (some (.int .i64 0), 1, 8) := by kernel_rfl

theorem enters_sp : ∀ args w, (callFunc 93 args).run Tryz.prog w = .ok (.enter 93 args) w := enters_of Tryz.func93 (by kernel_rfl) rfl
theorem enters_no : ∀ args w, (callFunc 117 args).run Tryz.prog w = .ok (.enter 117 args) w := enters_of Tryz.func117 (by kernel_rfl) rfl

theorem bool_ret {a b : Bool} (h : a = b) : Ending.returned (.bool a) = .returned (.bool b) := by rw [h]

theorem isSpace_pred (w : World) : PredAtRunes Tryz.prog 93 #[] isSp w := fun W x _ _ => by
  show Calls Tryz.prog 93 #[.int .i32 (x : Int)] W fun e w' => e = .returned (.bool (isSp x)) ∧ ∃ q, w' = W.drewN q
  go_enter Tryz.func93, Tryz.ntmps93
  go_wp2
  go_ret
  refine ⟨bool_ret ?_, 0, rfl⟩
  unfold isSp
  rw [Bool.eq_iff_iff]; simp; omega

theorem toArray_data (x : ByteArray) : (⟨x.data.toList.toArray⟩ : ByteArray) = x := by cases x; simp

/-- the words of one line -/
theorem fields_any (l : Wd) (w : World) (hl : l.length ≤ 4294967000) :
    Calls Tryz.prog 92 #[sv l, .func (.func 93) #[] #[]] w fun e w' =>
      ∃ A, e = .returned (.slice (some ⟨A, 0, none⟩) (fieldsB l).length (fieldsB l).length) ∧ w.heap.size ≤ A ∧ A < w'.heap.size ∧ (∀ j, j < (fieldsB l).length → w'.cell? ⟨A, 0 + j, none⟩ = some (sv ((fieldsB l).getD j []))) ∧ Below w.heap.size w w' := by
  have hf := goFields_fb ⟨l.toArray⟩
  simp only at hf
  have hlen : (Lib.goFieldsP isSp ⟨l.toArray⟩).length = (fieldsB l).length := by rw [← hf, List.length_map]
  have hmap : (Lib.goFieldsP isSp ⟨l.toArray⟩).map Value.string = (fieldsB l).map sv := by
    rw [← hf, List.map_map]
    exact List.map_congr_left fun x _ => by simp [sv]
  refine (Tryz.strings_FieldsFunc_runes 93 #[] enters_sp isSp ⟨l.toArray⟩ w (by simpa [ByteArray.size] using (by omega : l.length ≤ 4294967296)) (isSpace_pred w)).mono ?_
  rintro e w' ⟨A, he, hA, hown, hb⟩
  rw [hlen] at he hown
  rw [hmap] at hown
  obtain ⟨_, hr⟩ := own_row [] hown
  have hlt : A < w'.heap.size := (hown.lt A rfl).2
  refine ⟨A, he, hA, hlt, fun j hj => ?_, hb⟩
  obtain ⟨b, o, ea, _, hc⟩ := hr (by omega)
  injection ea with ea
  injection ea with e1 e2 _
  subst e1 e2
  exact hc j hj

/-- how the library splits: at each end of a line -/
theorem split_any (l : Wd) (m : Int) (w : World) (hl : l.length ≤ 4294967000) (hm : w.cell? ⟨1, 0, none⟩ = some (.int .i64 m)) :
    Calls Tryz.prog 63 #[sv l, .string ⟨#[10]⟩] w fun e w' =>
      e = .returned (.slice (some ⟨w.heap.size, 0, none⟩) (sb l).length (sb l).length) ∧ w' = w.alloc (.cells ((sb l).map sv).toArray 9) := by
  have hK : (Lib.splitB ⟨#[10]⟩ 0 (Lib.countB ⟨l.toArray⟩ ⟨#[10]⟩) ⟨l.toArray⟩).map (·.data.toList) = sb l := by
    rw [Lib.splitB_data]
    exact splitK_sb _ l rfl
  have hlen : Lib.countB ⟨l.toArray⟩ ⟨#[10]⟩ + 1 = (sb l).length := by
    rw [← hK, List.length_map, Lib.splitB_all ⟨#[10]⟩ (by decide) 0 _ _ rfl]
  have hmap : (Lib.splitB ⟨#[10]⟩ 0 (Lib.countB ⟨l.toArray⟩ ⟨#[10]⟩) ⟨l.toArray⟩).map Value.string = (sb l).map sv := by
    rw [← hK, List.map_map]
    exact List.map_congr_left fun x _ => by simp [sv]
  have h := Tryz.strings_Split ⟨l.toArray⟩ ⟨#[10]⟩ m w (by simpa [ByteArray.size] using (by omega : l.length < 4294967281)) hm (by decide)
  rw [hlen, hmap] at h
  exact h

def CutPost (l : Wd) (w : World) (e : Ending) (w' : World) : Prop := ∃ A c, e = .returned (.slice A (cutB l).length c) ∧ LRow w' w'.heap.size A (cutB l) ∧ Below w.heap.size w w'

theorem cut_take (l : Wd) (k : Nat) (hk : k < (sb l).length) : (cutB l).take (k + 1) = (cutB l).take k ++ [fieldsB ((sb l).getD k [])] := by
  have h1 : k < (cutB l).length := by unfold cutB; rw [List.length_map]; exact hk
  rw [List.take_succ_eq_append_getElem h1]
  congr 2
  simp [cutB, hk]
theorem sb_part : ∀ (l : Wd) (k : Nat), ((sb l).getD k []).length ≤ l.length
  | [], k => by cases k <;> simp [sb]
  | c :: r, k => by
    unfold sb
    split
    · cases k with
      | zero => simp
      | succ k => have := sb_part r k; simp only [List.getD_cons_succ, List.length_cons]; omega
    · cases h : sb r with
      | nil => cases k <;> simp
      | cons x t =>
        have := sb_part r k
        rw [h] at this
        cases k with
        | zero => simp only [List.getD_cons_zero, List.length_cons] at this ⊢; omega
        | succ k => simp only [List.getD_cons_succ, List.length_cons] at this ⊢; omega

set_option maxHeartbeats 1000000 in
theorem cut_any (l : Wd) (m : Int) (w : World) (hl : l.length ≤ 4294967000) (hm : w.cell? ⟨1, 0, none⟩ = some (.int .i64 m)) : Calls Tryz.prog 55 #[sv l] w (CutPost l w) := by
  have HC := Lib.hid (cut_take l)
  have HP := Lib.hid (sb_part l)
  have hn1 := sb_length l
  have Hlen := Lib.hid (show (cutB l).length = (sb l).length by unfold cutB; rw [List.length_map])
  have Hrow := Lib.hid (show Row (w.alloc (.cells ((sb l).map sv).toArray 9)) (w.heap.size + 1) (some ⟨w.heap.size, 0, none⟩) (sb l).length (fun i => sv ((sb l).getD i [])) from
    Row.of_rowIs (by
      have h := World.rowIs_alloc w ((sb l).map sv).toArray 9 (fun i => sv ((sb l).getD i [])) (fun i hi => by simp at hi; simp [hi])
      simpa using h) (by omega))
  go_enter Tryz.func55, Tryz.ntmps55
  go_wp2_with fail
  refine (split_any l m _ hl hm).mono ?_
  rintro e w' ⟨rfl, rfl⟩
  generalize hN : (sb l).length = n at *
  have HN := Lib.hid hN
  clear hN hm
  generalize hW : w.alloc (.cells ((sb l).map sv).toArray 9) = W at *
  have hWs : W.heap.size = w.heap.size + 1 := by rw [← hW]; simp
  have hWb : Below w.heap.size w W := by rw [← hW]; exact (Below.refl _ w).alloc (Nat.le_refl _) _
  clear hW
  have HWs := Lib.hid hWs
  clear hWs
  go_wp2_with fail
  go_loopw [3, 9] (fun s3 s9 wr => ∃ (k : Nat) (xs : List Value), s9 = .int .i64 k ∧ k ≤ n ∧ LOwn (w.heap.size + 1) 41 s3 ((cutB l).take k) xs wr ∧ Below (w.heap.size + 1) W wr) (fun _ s _ => n - (intOf s).toNat)
  case atStart => exact ⟨0, [], rfl, by omega, LOwn.nil _ _ _, Below.refl _ _⟩
  case round =>
    obtain ⟨k, xs, rfl, hk, J, hb⟩ := hrel
    have hr := Hrow.out.below hb
    by_cases hlt : k < n
    · obtain ⟨b0, o0, ea, hb0, hc⟩ := hr (by omega)
      injection ea with ea
      injection ea with e1 e2 _
      subst e1 e2
      have hc1 : wr.cell? ⟨w.heap.size, 0 + k, none⟩ = some (sv ((sb l).getD k [])) := hc k hlt
      rw [Nat.zero_add] at hc1
      have hp := HP.out k
      generalize hpt : (sb l).getD k [] = pt at *
      have HPT := Lib.hid hpt
      clear hpt hc hr
      go_wp2_with fail
      have hpl : pt.length ≤ 4294967000 := Nat.le_trans hp hl
      with_reducible refine (fields_any pt _ hpl).mono ?_
      rintro e w1 ⟨A, rfl, hA, hAlt, hcells, hb1⟩
      have HC1 := Lib.hid hcells
      clear hcells
      have Hls := Lib.hid (HC.out k hlt)
      rw [HPT.out] at Hls
      have hlk : ((cutB l).take k).length ≤ k := List.length_take_le _ _
      generalize (cutB l).take k = ls at *
      have J1 := (J.below hb1).below ((Below.refl _ w1).alloc (Nat.le_refl _) (.cells #[.slice (some ⟨A, 0, none⟩) (fieldsB pt).length (fieldsB pt).length] 41))
      have hfl := fb_length pt []
      have hfl : (fieldsB pt).length ≤ 4294967001 := by unfold fieldsB; omega
      have hsz := hb1.size
      have hsz0 : w.heap.size + 1 ≤ wr.heap.size := by have := hb.size; have := HWs.out; omega
      have hmx : ls.length + 1 ≤ maxLen := by unfold maxLen; omega
      go_wp2_with (at_builtin; refine wpList_app1 _ rfl _ _ 79 rfl (w.heap.size + 1) 41 (.slice none 0 0) 24 Tryz.underlying79 infoSs rfl _ ls.length xs rfl w1.heap.size (.slice (some ⟨A, 0, none⟩) (fieldsB pt).length (fieldsB pt).length) rfl J1.own (new1 _ _ _) (by simp) rfl hmx (by omega) (by simp; omega) ?_; intro v' w2 h2 h3 h4)
      have J2 : LOwn (w.heap.size + 1) 41 v' (ls ++ [fieldsB pt]) (xs ++ [.slice (some ⟨A, 0, none⟩) (fieldsB pt).length (fieldsB pt).length]) w2 := by
        refine J1.app (fieldsB pt) (some ⟨A, 0, none⟩) (fieldsB pt).length (.inr ⟨A, 0, rfl, by simp; omega, ?_, fun j hj => ?_⟩) h3 h4 h2
        · intro he
          have := (J.own.lt A he.symm).2
          omega
        · rw [World.cell?_alloc_lt _ _ _ hAlt]
          exact HC1.out j hj
      have hb2 : Below (w.heap.size + 1) W w2 := by
        have hx : Below (w.heap.size + 1) W w1 := hb.trans (hb1.mono hsz0)
        exact (hx.alloc (by omega) _).grown h3 (by simp; omega) (fun g hg => (J1.own.lt g hg).1)
      clear J1 h2 h3 h4 HC1
      go_wp2
      go_roundw
      case rel => exact ⟨k + 1, _, by go_num, by omega, by rw [Hls.out]; exact J2, hb2⟩
      case measure => simp [intOf]; omega
    · obtain rfl : k = n := by omega
      obtain ⟨A, c, rfl, _⟩ := own_slice J.own
      have hfull : (cutB l).take k = cutB l := by rw [← Hlen.out]; exact List.take_length
      have HF := Lib.hid hfull
      clear hfull hr
      go_wp2
      go_ret
      rw [HF.out] at J ⊢
      exact ⟨A, c, rfl, J.row rfl, hWb.trans (hb.mono (by omega))⟩

end Go.Proofs.YtoejenejleocdabGreatDoor

/- What text.formed answers: have all words the form? -/
namespace Go.Proofs.YtoejenejleocdabGreatDoor
open Go.RowKit Tx

theorem isNo_pred (w : World) : PredAtRunes Tryz.prog 117 #[] isNo w := fun W x _ _ => by
  show Calls Tryz.prog 117 #[.int .i32 (x : Int)] W fun e w' => e = .returned (.bool (isNo x)) ∧ ∃ q, w' = W.drewN q
  by_cases h : x < 97
  · have hd : decide ((x : Int) < 97) = true := by simp; omega
    go_enter Tryz.func117, Tryz.ntmps117
    go_wp2
    go_ret
    exact ⟨bool_ret (by simp [isNo, h]), 0, rfl⟩
  · have hd : decide ((x : Int) < 97) = false := by simp; omega
    go_enter Tryz.func117, Tryz.ntmps117
    go_wp2
    go_ret
    refine ⟨bool_ret ?_, 0, rfl⟩
    unfold isNo
    rw [Bool.eq_iff_iff]; simp; omega

theorem noLetter_any (l : Wd) (w : World) :
    Calls Tryz.prog 116 #[sv l, .func (.func 117) #[] #[]] w fun e w' => e = .returned (.bool (!(l.all letter))) ∧ Below w.heap.size w w' := by
  have h := Tryz.strings_ContainsFunc_runes 117 #[] enters_no isNo ⟨l.toArray⟩ w (isNo_pred w)
  rw [contains_no] at h
  exact h
theorem noLetter_yes (l : Wd) (w : World) (hl : l.all letter = true) :
    Calls Tryz.prog 116 #[sv l, .func (.func 117) #[] #[]] w fun e w' => e = .returned (.bool false) ∧ Below w.heap.size w w' := by
  have h := noLetter_any l w
  rwa [hl] at h
theorem noLetter_no (l : Wd) (w : World) (hl : l.all letter = false) :
    Calls Tryz.prog 116 #[sv l, .func (.func 117) #[] #[]] w fun e w' => e = .returned (.bool true) ∧ Below w.heap.size w w' := by
  have h := noLetter_any l w
  rwa [hl] at h

theorem all_take {α : Type} (p : α → Bool) (l : List α) (d : α) (k : Nat) (hk : k < l.length) : (l.take (k + 1)).all p = ((l.take k).all p && p (l.getD k d)) := by
  rw [List.take_succ_eq_append_getElem hk, List.all_append, List.getD_eq_getElem?_getD, List.getElem?_eq_getElem hk]
  simp
theorem all_no {α : Type} (p : α → Bool) (l : List α) (d : α) (k : Nat) (hk : k < l.length) (h : p (l.getD k d) = false) : l.all p = false := by
  rw [List.getD_eq_getElem?_getD, List.getElem?_eq_getElem hk] at h
  rw [List.all_eq_false]
  exact ⟨l[k], List.getElem_mem hk, by simpa using h⟩

set_option maxHeartbeats 1000000 in
theorem formed_any (ws : List Wd) (A : Option Addr) (n c : Nat) (w : World) (hA : SRow w w.heap.size A ws) (hn : n = ws.length) (hb : n ≤ 4294967296) :
    Calls Tryz.prog 87 #[.slice A n c] w fun e w' => e = .returned (.bool (ws.all isWord)) ∧ Below w.heap.size w w' := by
  unfold SRow at hA
  rw [← hn] at hA
  have HT := Lib.hid (all_take isWord ws [])
  have HF := Lib.hid (all_no isWord ws [])
  rw [← hn] at HT HF
  have Hn := Lib.hid hn
  clear hn
  have HA := Lib.hid hA
  clear hA
  go_enter Tryz.func87, Tryz.ntmps87
  go_wp2
  go_loopw [7] (fun s wr => ∃ k : Nat, s = .int .i64 k ∧ k ≤ n ∧ Hid ((ws.take k).all isWord = true) ∧ Below w.heap.size w wr) (fun s _ => n - (intOf s).toNat)
  case atStart => exact ⟨0, rfl, by omega, Lib.hid (by simp), Below.refl _ _⟩
  case round =>
    obtain ⟨k, rfl, hk, J, hbel⟩ := hrel
    by_cases hlt : k < n
    · obtain ⟨b, o, rfl, hbb, hc⟩ := HA.out (by omega)
      have hc1 : wr.cell? ⟨b, o + k, none⟩ = some (sv (ws.getD k [])) := (hbel.cell (p := ⟨b, o + k, none⟩) hbb).trans (hc k hlt)
      have HT1 := Lib.hid (HT.out k hlt)
      have HF1 := Lib.hid (HF.out k hlt)
      generalize ws.getD k [] = x at hc1 HT1 HF1
      clear hc HT HF
      by_cases h1 : x.length < 1
      · have hd : decide ((x.length : Int) < 1) = true := by simp; omega
        have HX := Lib.hid (HF1.out (by unfold isWord; simp; omega))
        clear HF1 HT1
        go_wp2
        go_ret
        exact ⟨bool_ret HX.out.symm, hbel⟩
      · have hd : decide ((x.length : Int) < 1) = false := by simp; omega
        by_cases h8 : 8 < x.length
        · have hd2 : decide (8 < (x.length : Int)) = true := by simp; omega
          have HX := Lib.hid (HF1.out (by unfold isWord; simp; omega))
          clear HF1 HT1
          go_wp2
          go_ret
          exact ⟨bool_ret HX.out.symm, hbel⟩
        · have hd2 : decide (8 < (x.length : Int)) = false := by simp; omega
          cases hl : x.all letter
          · have HX := Lib.hid (HF1.out (by unfold isWord; rw [hl]; simp))
            have HL := Lib.hid hl
            clear HF1 HT1 hl
            go_wp2_with fail
            with_reducible refine (noLetter_no x _ HL.out).mono ?_
            rintro e w1 ⟨rfl, hb1⟩
            go_wp2
            go_ret
            exact ⟨bool_ret HX.out.symm, hbel.trans (hb1.mono hbel.size)⟩
          · have HX := Lib.hid (HT1.out.trans (by rw [J.out]; unfold isWord; rw [hl]; simp; omega : _ = true))
            have HL := Lib.hid hl
            clear HF1 HT1 hl
            go_wp2_with fail
            with_reducible refine (noLetter_yes x _ HL.out).mono ?_
            rintro e w1 ⟨rfl, hb1⟩
            go_wp2
            go_roundw
            case rel => exact ⟨k + 1, by go_num, by omega, HX, hbel.trans (hb1.mono hbel.size)⟩
            case measure => simp [intOf]; omega
    · obtain rfl : k = n := by omega
      have HX := Lib.hid (show ws.all isWord = true by have := J.out; rwa [Hn.out, List.take_length] at this)
      go_wp2
      go_ret
      exact ⟨bool_ret HX.out.symm, hbel⟩

end Go.Proofs.YtoejenejleocdabGreatDoor

/- What text.numbers answers: the words' numbers, or that one is none. -/
namespace Go.Proofs.YtoejenejleocdabGreatDoor
open Go.RowKit Tx

theorem bs_raw (ws : List Wd) (A : Option Addr) (n c : Nat) (x : Wd) (w : World) (hA : SRow w w.heap.size A ws) (hn : n = ws.length) (hb : n ≤ 4294967296) :
    Calls Tryz.prog 91 #[.slice A n c, sv x] w fun e w' => e = .returned (.tuple #[.int .i64 (bsAt ws x : Nat), .bool (findIn ws x).isSome]) ∧ ∃ q, w' = w.drewN q := by
  by_cases h0 : n = 0
  · subst h0
    obtain rfl : ws = [] := List.eq_nil_of_length_eq_zero hn.symm
    refine (Any2.slices_BinarySearch_string_empty Tryz.lays2_26 A c ⟨x.toArray⟩ w).mono ?_
    rintro e w' ⟨rfl, rfl⟩
    exact ⟨rfl, 0, rfl⟩
  · obtain ⟨b, o, rfl, hbb, hc⟩ := hA (by omega)
    subst hn
    have h := Any2.slices_BinarySearch_string Tryz.lays2_26 b o ws.length c (fun j => ⟨(ws.getD j []).toArray⟩) ⟨x.toArray⟩ w (by omega) hc
    rw [bs_bytes] at h
    have e1 : decide (bsAt ws x < ws.length ∧ (⟨(ws.getD (bsAt ws x) []).toArray⟩ : ByteArray) = ⟨x.toArray⟩) = (findIn ws x).isSome := by
      unfold findIn
      by_cases hh : bsAt ws x < ws.length ∧ ws.getD (bsAt ws x) [] = x
      · rw [if_pos hh]; simp only [Option.isSome_some, decide_eq_true_eq]; exact ⟨hh.1, by rw [hh.2]⟩
      · rw [if_neg hh]; simp only [Option.isSome_none, decide_eq_false_iff_not]
        rintro ⟨h1, h2⟩
        refine hh ⟨h1, ?_⟩
        injection h2 with h2
        simpa using h2
    rw [e1] at h
    exact h
theorem bs_yes (ws : List Wd) (A : Option Addr) (n c : Nat) (x : Wd) (p : Nat) (w : World) (hA : SRow w w.heap.size A ws) (hn : n = ws.length) (hb : n ≤ 4294967296) (hf : findIn ws x = some p) :
    Calls Tryz.prog 91 #[.slice A n c, sv x] w fun e w' => e = .returned (.tuple #[.int .i64 (p : Nat), .bool true]) ∧ Below w.heap.size w w' := by
  have hp : bsAt ws x = p := by unfold findIn at hf; split at hf; · injection hf
                                · cases hf
  refine (bs_raw ws A n c x w hA hn hb).mono ?_
  rintro e w' ⟨rfl, q, rfl⟩
  rw [hf, hp]
  exact ⟨rfl, Below.drewN (Below.refl _ _) q⟩
theorem bs_no (ws : List Wd) (A : Option Addr) (n c : Nat) (x : Wd) (w : World) (hA : SRow w w.heap.size A ws) (hn : n = ws.length) (hb : n ≤ 4294967296) (hf : findIn ws x = none) :
    Calls Tryz.prog 91 #[.slice A n c, sv x] w fun e w' => e = .returned (.tuple #[.int .i64 (bsAt ws x : Nat), .bool false]) ∧ Below w.heap.size w w' := by
  refine (bs_raw ws A n c x w hA hn hb).mono ?_
  rintro e w' ⟨rfl, q, rfl⟩
  rw [hf]
  exact ⟨rfl, Below.drewN (Below.refl _ _) q⟩

/-- numbers as values -/
def iv (l : List Int) : List Value := l.map (Value.int .i64)
/-- what numbers hands back -/
def NumPost (ws : List Wd) (ls : List (List Wd)) (w : World) (e : Ending) (w' : World) : Prop :=
  (allIn (findIn ws) ls = true ∧ ∃ v, e = .returned (.tuple #[v, .bool true]) ∧ w'.ownsRow w.heap.size 3 1 v (toks ls).length (iv (nums (findIn ws) (toks ls))) ∧ Below w.heap.size w w') ∨
  (allIn (findIn ws) ls = false ∧ e = .returned (.tuple #[.slice none 0 0, .bool false]) ∧ Below w.heap.size w w')

/-- numbers in the making: of these tokens -/
structure NI (ws : List Wd) (ts : List (Option Wd)) (w : World) (v : Value) (wr : World) : Prop where
  own : wr.ownsRow w.heap.size 3 1 v ts.length (iv (nums (findIn ws) ts))
  old : Below w.heap.size w wr
theorem NI.on {ws : List Wd} {ts : List (Option Wd)} {w : World} {v : Value} {wr w' : World} (h : NI ws ts w v wr) (hb : Below wr.heap.size wr w') : NI ws ts w v w' := ⟨own_below h.own hb, h.old.trans (hb.mono h.old.size)⟩
theorem NI.app {ws : List Wd} {ts : List (Option Wd)} {w : World} {v v' : Value} {wr w' : World} (h : NI ws ts w v wr) (t : Option Wd) (x : Int) (hx : x = numB (findIn ws) t)
    (h2 : w'.ownsRow w.heap.size 3 1 v' (ts.length + 1) (iv (nums (findIn ws) ts) ++ [.int .i64 x])) (hg : wr.grownBy w' v.ownBlock) : NI ws (ts ++ [t]) w v' w' := by
  refine ⟨?_, h.old.grown hg h.old.size (fun g hg => (h.own.lt g hg).1)⟩
  subst hx
  simpa [iv, nums] using h2

theorem allIn_take (f : Wd → Option Nat) (ls : List (List Wd)) (i : Nat) (hi : i < ls.length) : allIn f (ls.take (i + 1)) = (allIn f (ls.take i) && (ls.getD i []).all fun w => (f w).isSome) := by
  unfold allIn
  rw [List.take_succ_eq_append_getElem hi, List.all_append, List.getD_eq_getElem?_getD, List.getElem?_eq_getElem hi]
  simp
theorem allIn_no (f : Wd → Option Nat) (ls : List (List Wd)) (i j : Nat) (hi : i < ls.length) (hj : j < (ls.getD i []).length) (h : f ((ls.getD i []).getD j []) = none) : allIn f ls = false := by
  unfold allIn
  rw [List.all_eq_false]
  have e : ls.getD i [] = ls[i] := by rw [List.getD_eq_getElem?_getD, List.getElem?_eq_getElem hi]; rfl
  refine ⟨ls[i], List.getElem_mem hi, ?_⟩
  rw [← e]
  intro hall
  rw [List.all_eq_true] at hall
  have := hall _ (List.getElem_mem hj)
  rw [List.getD_eq_getElem?_getD, List.getElem?_eq_getElem hj] at h
  simp only [Option.getD_some] at h
  rw [h] at this
  simp at this
theorem all_take' {α : Type} (p : α → Bool) (l : List α) (d : α) (k : Nat) (hk : k < l.length) : (l.take (k + 1)).all p = ((l.take k).all p && p (l.getD k d)) := by
  rw [List.take_succ_eq_append_getElem hk, List.all_append, List.getD_eq_getElem?_getD, List.getElem?_eq_getElem hk]
  simp
theorem map_take_some (L : List Wd) (j : Nat) (hj : j < L.length) : (L.take (j + 1)).map some = (L.take j).map some ++ [some (L.getD j [])] := by
  rw [List.take_succ_eq_append_getElem hj, List.map_append, List.getD_eq_getElem?_getD, List.getElem?_eq_getElem hj]
  rfl
theorem toks_take_le (ls : List (List Wd)) (i : Nat) : ((toks (ls.take i)).length : Nat) ≤ (toks ls).length := by
  by_cases h : i < ls.length
  · have : ∀ j, i ≤ j → j ≤ ls.length → (toks (ls.take i)).length ≤ (toks (ls.take j)).length := by
      intro j
      induction j with
      | zero => intro h1 _; have : i = 0 := by omega
                subst this; exact Nat.le_refl _
      | succ j ih =>
        intro h1 h2
        by_cases e : i = j + 1
        · rw [e]; exact Nat.le_refl _
        · refine Nat.le_trans (ih (by omega) (by omega)) ?_
          rw [toks_take ls j (by omega)]
          simp
    have h2 := this ls.length (by omega) (Nat.le_refl _)
    rwa [List.take_length] at h2
  · rw [List.take_of_length_le (by omega)]; exact Nat.le_refl _

end Go.Proofs.YtoejenejleocdabGreatDoor

/- The walk of text.numbers. -/
namespace Go.Proofs.YtoejenejleocdabGreatDoor
open Go.RowKit Tx

set_option maxHeartbeats 2000000 in
theorem numbersT_any (ws : List Wd) (ls : List (List Wd)) (A : Option Addr) (n c : Nat) (A2 : Option Addr) (n2 c2 : Nat) (w : World) (hA : SRow w w.heap.size A ws) (hn : n = ws.length) (hL : LRow w w.heap.size A2 ls) (hn2 : n2 = ls.length)
    (hb : n ≤ 4294967296) (hb2 : n2 ≤ 4294967296) (hb3 : (toks ls).length ≤ 8589934592) :
    Calls Tryz.prog 54 #[.slice A n c, .slice A2 n2 c2] w (NumPost ws ls w) := by
  obtain ⟨a, cs, hR, hS⟩ := hL
  rw [← hn2] at hR hS
  have HR := Lib.hid hR
  have HS := Lib.hid hS
  have HA := Lib.hid hA
  have Hn := Lib.hid hn
  have Hn2 := Lib.hid hn2
  have HT := Lib.hid (toks_take ls)
  have HI := Lib.hid (allIn_take (findIn ws) ls)
  have HX := Lib.hid (allIn_no (findIn ws) ls)
  have HTL := Lib.hid (toks_take_le ls)
  rw [← hn2] at HT HI HX
  clear hR hS hA hn hn2
  go_enter Tryz.func54, Tryz.ntmps54
  go_wp2
  go_loopw [6, 15] (fun s6 s15 wr => ∃ i : Nat, s15 = .int .i64 i ∧ i ≤ n2 ∧ Hid (allIn (findIn ws) (ls.take i) = true) ∧ NI ws (toks (ls.take i)) w s6 wr) (fun _ s _ => n2 - (intOf s).toNat)
  case atStart => exact ⟨0, rfl, by omega, Lib.hid (by simp [allIn]), ⟨World.ownsRow_nil _ _ _ _, Below.refl _ _⟩⟩
  case round =>
    obtain ⟨i, rfl, hi, Hin, J⟩ := hrel
    by_cases hlt : i < n2
    · obtain ⟨b0, o0, rfl, hb0, hc0⟩ := HR.out (by omega)
      have hc1 : wr.cell? ⟨b0, o0 + i, none⟩ = some (.slice (a i) (ls.getD i []).length (cs i)) := (J.old.cell (p := ⟨b0, o0 + i, none⟩) hb0).trans (hc0 i hlt)
      have HLr := Lib.hid (HS.out i hlt)
      have HT1 := Lib.hid (HT.out i hlt)
      have HI1 := Lib.hid (HI.out i hlt)
      have HX1 := Lib.hid (fun j => HX.out i j hlt)
      have hT1 := HTL.out (i + 1)
      rw [HT1.out] at hT1
      have hT0 := HTL.out i
      generalize ls.getD i [] = L at *
      generalize a i = Ai at *
      generalize cs i = ci at *
      clear hc0 HT HI HX HTL HS
      simp only [List.length_append, List.length_map] at hT1
      have hLl : L.length ≤ 8589934592 := by omega
      go_upto_if 21 with fail
      go_cut [6, 15] from 15 to 45 (fun s6 s15 wx => s15 = .int .i64 i ∧ NI ws (toks (ls.take i) ++ (if i = 0 then [] else [none])) w s6 wx)
      case first =>
        by_cases h0 : i = 0
        · subst h0
          have hd : decide ((0 : Int) < ((0 : Nat) : Int)) = false := by simp
          go_wp2_with fail
          go_meet
          exact ⟨rfl, by simpa using J⟩
        · have hd : decide ((0 : Int) < (i : Int)) = true := by simp; omega
          have hmx : (toks (ls.take i)).length + 1 ≤ maxLen := by unfold maxLen; omega
          have hsz := J.old.size
          have J1 := J.on ((Below.refl _ wr).alloc (Nat.le_refl _) (.cells #[.int .i64 1] 3))
          go_wp2_with (at_builtin; refine wpList_app1 _ rfl _ _ 22 rfl w.heap.size 3 (.int .i64 0) 8 Tryz.underlying22 infoIntT rfl _ (toks (ls.take i)).length (iv (nums (findIn ws) (toks (ls.take i)))) rfl wr.heap.size (.int .i64 1) rfl J1.own (new1 _ _ _) (by simp) rfl hmx (by omega) (by simp; omega) ?_; intro v' w2 h2 h3 h4)
          go_meet
          refine ⟨rfl, ?_⟩
          rw [if_neg h0]
          exact J1.app none 1 rfl h2 h3
      case rest =>
        clear J hc1
        obtain ⟨rfl, J⟩ := hcut
        generalize hTs : toks (ls.take i) ++ (if i = 0 then [] else [none]) = ts at *
        have hts : ts.length + L.length ≤ 8589934592 := by
          have := congrArg List.length hTs
          rw [List.length_append] at this
          omega
        clear hTs
        go_wp2_with fail
        go_loopw [6, 27] (fun s6 s27 wx => ∃ j : Nat, s27 = .int .i64 j ∧ j ≤ L.length ∧ Hid ((L.take j).all (fun x => (findIn ws x).isSome) = true) ∧ NI ws (ts ++ (L.take j).map some) w s6 wx) (fun _ s _ => L.length - (intOf s).toNat)
        case atStart => exact ⟨0, rfl, by omega, Lib.hid (by simp), by simpa using J⟩
        case round =>
          clear J
          obtain ⟨j, rfl, hj, Hj, J⟩ := hrel
          by_cases hjl : j < L.length
          · obtain ⟨b1, o1, rfl, hb1, hc⟩ := HLr.out (by omega)
            have hc1 : wr.cell? ⟨b1, o1 + j, none⟩ = some (sv (L.getD j [])) := (J.old.cell (p := ⟨b1, o1 + j, none⟩) hb1).trans (hc j hjl)
            have HX2 := Lib.hid (HX1.out j hjl)
            have HM := Lib.hid (map_take_some L j hjl)
            have HAT := Lib.hid (all_take' (fun x => (findIn ws x).isSome) L [] j hjl)
            have hlj : ((L.take j).map some).length ≤ j := by rw [List.length_map]; exact List.length_take_le _ _
            generalize L.getD j [] = x at *
            clear hc
            cases hf : findIn ws x with
            | none =>
              have HN := Lib.hid (HX2.out hf)
              have HF := Lib.hid hf
              have HA2 := Lib.hid ((HA.out.below J.old).more J.old.size)
              clear hf HX2 HAT
              go_wp2_with fail
              with_reducible refine (bs_no ws A n c x _ HA2.out Hn.out hb HF.out).mono ?_
              rintro e w3 ⟨rfl, hb3'⟩
              have hold := J.old.trans (hb3'.mono J.old.size)
              clear J
              go_wp2
              go_ret2
              exact .inr ⟨HN.out, rfl, hold⟩
            | some p =>
              have hpn : p < n := by rw [Hn.out]; exact (findIn_some hf).1
              have HF := Lib.hid hf
              have HG := Lib.hid (show (L.take (j + 1)).all (fun x => (findIn ws x).isSome) = true by rw [HAT.out, Hj.out, hf]; rfl)
              have HA2 := Lib.hid ((HA.out.below J.old).more J.old.size)
              clear hf HX2 HAT
              go_wp2_with fail
              with_reducible refine (bs_yes ws A n c x p _ HA2.out Hn.out hb HF.out).mono ?_
              rintro e w3 ⟨rfl, hb3'⟩
              have J3 := J.on hb3'
              clear J hb3' HA2
              have hmx : (ts ++ (L.take j).map some).length + 1 ≤ maxLen := by rw [List.length_append]; unfold maxLen; omega
              have hby : ((ts ++ (L.take j).map some).length + 1) * 8 ≤ 140737488355328 := by rw [List.length_append]; omega
              have hsz := J3.old.size
              have J4 := J3.on ((Below.refl _ w3).alloc (Nat.le_refl _) (.cells #[.int .i64 ((p : Int) + 2)] 3))
              go_wp2_with (at_builtin; refine wpList_app1 _ rfl _ _ 22 rfl w.heap.size 3 (.int .i64 0) 8 Tryz.underlying22 infoIntT rfl _ (ts ++ (L.take j).map some).length (iv (nums (findIn ws) (ts ++ (L.take j).map some))) rfl w3.heap.size (.int .i64 ((p : Int) + 2)) rfl J4.own (new1 _ _ _) (by simp) rfl hmx hby (by simp; omega) ?_; intro v' w2 h2 h3 h4)
              have J5 := J4.app (some x) ((p : Int) + 2) (by simp [numB, HF.out]) h2 h3
              rw [List.append_assoc, ← HM.out] at J5
              clear J3 J4 h2 h3 h4
              go_wp2
              go_roundw
              case rel => exact ⟨j + 1, by go_num, by omega, HG, J5⟩
              case measure => simp [intOf]; omega
          · obtain rfl : j = L.length := by omega
            rw [List.take_length] at J
            have HG := Lib.hid (show allIn (findIn ws) (ls.take (i + 1)) = true by rw [HI1.out, Hin.out]; have := Hj.out; rw [List.take_length] at this; rw [this]; rfl)
            have HTT := Lib.hid HT1.out
            go_wp2
            go_roundw
            case rel => exact ⟨i + 1, by go_num, by omega, HG, by rw [HTT.out]; exact J⟩
            case measure => simp [intOf]; omega
    · obtain rfl : i = n2 := by omega
      have HG := Lib.hid (show allIn (findIn ws) ls = true by have := Hin.out; rwa [Hn2.out, List.take_length] at this)
      have HF := Lib.hid (show ls.take i = ls by rw [Hn2.out, List.take_length])
      go_wp2
      go_ret2
      rw [HF.out] at J
      exact .inl ⟨HG.out, _, rfl, J.own, J.old⟩

end Go.Proofs.YtoejenejleocdabGreatDoor
