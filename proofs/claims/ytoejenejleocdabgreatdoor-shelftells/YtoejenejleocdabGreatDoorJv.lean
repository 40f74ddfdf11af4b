import Derived.Test.YtoejenejleocdabGreatDoorJu
import Derived.Test.YtoejenejleocdabGreatDoorJt
import Derived.Deep.RegionHeld3
/- What slices.Concat makes of lines: all words, one behind the other, in a row of its own. -/
namespace Go.Proofs.YtoejenejleocdabGreatDoor
open Go.RowKit Tx

theorem sizeStr : ∃ i, Tryz.prog.info? 9 = some i ∧ i.zero = some (.string ⟨#[]⟩) ∧ i.size = 1 ∧ i.bytes = 16 := by
  obtain ⟨i, hi, hz⟩ := Option.map_eq_some_iff.1 infoStr
  simp only [Prod.mk.injEq] at hz
  exact ⟨i, hi, hz.1, hz.2.1, hz.2.2⟩

theorem own_fresh (w : World) (cs : Array Value) (e : TypeId) (cap : Nat) (hc : cs.size = cap) (hm : cap ≤ maxLen) : (w.drew.alloc (.cells cs e)).ownsRow w.heap.size e 1 (.slice (some ⟨w.heap.size, 0, none⟩) 0 cap) 0 [] :=
  ⟨by simp, .inr ⟨w.heap.size, cap, cs, rfl, Nat.le_refl _, Deep.blk_alloc_new w.drew _, Nat.zero_le _, hm, by omega, by simp⟩⟩
/-- room for so many strings -/
theorem grow_any (S : Nat) (w : World) (hS : S ≤ 8589934592) :
    Calls Tryz.prog 115 #[.slice none 0 0, .int .i64 S] w fun e w' => ∃ v, e = .returned v ∧ w'.ownsRow w.heap.size 9 1 v 0 [] ∧ Below w.heap.size w w' := by
  by_cases h0 : S = 0
  · subst h0
    refine (Any8.slices_Grow_room Tryz.lays8_4 none 0 0 0 w (by omega) (by omega) (by omega) (by omega)).mono ?_
    rintro e w' ⟨rfl, rfl⟩
    exact ⟨_, rfl, World.ownsRow_nil _ _ _ _, Below.refl _ _⟩
  · obtain ⟨i, hi, hz, hs, hb⟩ := sizeStr
    refine (Any8.slices_Grow_grow Tryz.lays8_4 i (.string ⟨#[]⟩) hi hz (by omega) none 0 0 S [] w (by omega) (by omega) (by rw [hb]; omega) (by omega) (by simp) (fun _ => rfl) (fun a h => by cases h)).mono ?_
    rintro e w' ⟨rfl, rfl⟩
    have hg := grownCap_ge w (0 + S) 0 9
    have hm := grownCap_le_maxLen w (0 + S) 0 9 (by unfold maxLen; omega)
    exact ⟨_, rfl, own_fresh w _ 9 _ (by
      show _ = grownCap w (0 + S) 0 9
      change ((#[] : Array Value) ++ Builtin.zeroCells (Value.string ⟨#[]⟩).cells (0 + S - 0) ++ Builtin.zeroCells (Value.string ⟨#[]⟩).cells (grownCap w (0 + S) 0 9 - (0 + S))).size = _
      simp only [Array.size_append, size_zeroCells, Value.cells]
      simp
      rw [Nat.zero_add] at hg
      omega) hm, ((Below.refl _ w).drew).alloc (Nat.le_refl _) _⟩

theorem flat_take (ls : List (List Wd)) (k : Nat) (hk : k < ls.length) : (ls.take (k + 1)).flatten = (ls.take k).flatten ++ ls.getD k [] := by
  rw [List.take_succ_eq_append_getElem hk, List.flatten_append, List.getD_eq_getElem?_getD, List.getElem?_eq_getElem hk]
  simp
theorem flat_take_le (ls : List (List Wd)) (k : Nat) : (ls.take k).flatten.length ≤ ls.flatten.length := by
  conv => rhs; rw [← List.take_append_drop k ls]
  rw [List.flatten_append, List.length_append]; omega
theorem map_range_sv (L : List Wd) : (List.range L.length).map (fun i => sv (L.getD i [])) = L.map sv := (map_range_getD L [] sv).symm

set_option maxHeartbeats 1000000 in
theorem concat_any (ls : List (List Wd)) (A : Option Addr) (n c : Nat) (w : World) (hL : LRow w w.heap.size A ls) (hn : n = ls.length) (hb : n ≤ 4294967296) (hb2 : ls.flatten.length ≤ 8589934592) :
    Calls Tryz.prog 86 #[.slice A n c] w fun e w' => ∃ v, e = .returned v ∧ w'.ownsRow w.heap.size 9 1 v ls.flatten.length (ls.flatten.map sv) ∧ Below w.heap.size w w' := by
  obtain ⟨a, cs, hR, hS⟩ := hL
  rw [← hn] at hR hS
  have HR := Lib.hid hR
  have HS := Lib.hid hS
  have Hn := Lib.hid hn
  have HF := Lib.hid (flat_take ls)
  have HFL := Lib.hid (flat_take_le ls)
  rw [← hn] at HF
  clear hR hS hn
  go_enter Tryz.func86, Tryz.ntmps86
  go_wp2
  go_loop [3, 11] (fun s3 s11 => ∃ k : Nat, s11 = .int .i64 k ∧ k ≤ n ∧ s3 = .int .i64 ((ls.take k).flatten.length : Nat)) (fun _ s => n - (intOf s).toNat)
  case atStart => exact ⟨0, rfl, by omega, rfl⟩
  case round =>
    obtain ⟨k, rfl, hk, rfl⟩ := hrel
    by_cases hlt : k < n
    · obtain ⟨b0, o0, rfl, hb0, hc0⟩ := HR.out (by omega)
      have hc1 : w.cell? ⟨b0, o0 + k, none⟩ = some (.slice (a k) (ls.getD k []).length (cs k)) := hc0 k hlt
      have h1 := HF.out k hlt
      have h2 := HFL.out (k + 1)
      rw [h1, List.length_append] at h2
      have Hl := Lib.hid (show (ls.take (k + 1)).flatten.length = (ls.take k).flatten.length + (ls.getD k []).length by rw [h1, List.length_append])
      generalize (ls.getD k []).length = m at *
      generalize (ls.take k).flatten.length = s at *
      generalize a k = Ai at *
      generalize cs k = ci at *
      clear hc0 h1
      have hneg : decide ((s : Int) + (m : Int) < 0) = false := by simp; omega
      go_wp2
      go_round
      case rel => exact ⟨k + 1, by go_num, by omega, by rw [Hl.out]; go_num⟩
      case measure => simp [intOf]; omega
    · obtain rfl : k = n := by omega
      have HK := Lib.hid (show (ls.take k).flatten.length = ls.flatten.length by rw [Hn.out, List.take_length])
      obtain ⟨T, hT⟩ : ∃ T, T = ls.flatten.length := ⟨_, rfl⟩
      rw [HK.out, ← hT]
      rw [← hT] at hb2
      have HT := Lib.hid hT
      clear hT
      go_wp2_with fail
      with_reducible refine (grow_any _ _ hb2).mono ?_
      rintro e w1 ⟨v, rfl, hown, hb1⟩
      go_wp2_with fail
      go_loopw [6, 27] (fun s6 s27 wr => ∃ i : Nat, s27 = .int .i64 i ∧ i ≤ k ∧ wr.ownsRow w.heap.size 9 1 s6 (ls.take i).flatten.length ((ls.take i).flatten.map sv) ∧ Below w.heap.size w wr) (fun _ s _ => k - (intOf s).toNat)
      case atStart => exact ⟨0, rfl, by omega, hown, hb1⟩
      case round =>
        clear hown hb1
        obtain ⟨i, rfl, hi, J, hold⟩ := hrel
        by_cases hlt : i < k
        · obtain ⟨b0, o0, rfl, hb0, hc0⟩ := HR.out (by omega)
          have hc1 : wr.cell? ⟨b0, o0 + i, none⟩ = some (.slice (a i) (ls.getD i []).length (cs i)) := (hold.cell (p := ⟨b0, o0 + i, none⟩) hb0).trans (hc0 i hlt)
          have HLr := Lib.hid ((HS.out i hlt).below hold |>.more hold.size)
          have h1 := HF.out i hlt
          have h2 := HFL.out (i + 1)
          rw [h1, List.length_append, ← HT.out] at h2
          have Hl := Lib.hid h1
          generalize ls.getD i [] = L at *
          generalize a i = Ai at *
          generalize cs i = ci at *
          generalize (ls.take i).flatten = F at *
          clear hc0 h1
          have hsz := hold.size
          have hmx : F.length + L.length ≤ maxLen := by unfold maxLen; omega
          go_wp2_with (at_builtin; refine wpList_app_row _ rfl _ _ 41 rfl w.heap.size 9 (.string ⟨#[]⟩) 16 Tryz.underlying41 infoStr rfl _ F.length (F.map sv) rfl J Ai L.length ci (fun i => sv (L.getD i [])) rfl HLr.out (fun _ _ => rfl) hmx (by omega) (by omega) ?_; intro v' w2 h2' h3 h4)
          rw [map_range_sv, ← List.map_append] at h2'
          have hold2 := hold.grown h3 hold.size (fun g hg => (J.lt g hg).1)
          clear J HLr h3 h4
          go_wp2
          go_roundw
          case rel => exact ⟨i + 1, by go_num, by omega, by rw [Hl.out, List.length_append]; exact h2', hold2⟩
          case measure => simp [intOf]; omega
        · obtain rfl : i = k := by omega
          have HK2 := Lib.hid (show (ls.take i).flatten = ls.flatten by rw [Hn.out, List.take_length])
          rw [HK2.out] at J
          go_wp2
          go_ret
          exact ⟨_, rfl, J, hold⟩

end Go.Proofs.YtoejenejleocdabGreatDoor

/- A row of words of the call's own, sorted, and each word once. -/
namespace Go.Proofs.YtoejenejleocdabGreatDoor
open Go.RowKit Tx

/-- the row, other words put into it -/
theorem own_put {w : World} {base : Nat} {e : TypeId} {g n cap q m : Nat} {all d : List Wd} {os : Array Obj} (h : w.ownsRow base e 1 (.slice (some ⟨g, 0, none⟩) n cap) n (all.map sv)) (hd : d.length = n) (hm : m ≤ n) :
    (Sort.grow (Sort.putRow encStr (Sort.ahead w q) g 0 d.toArray) os).ownsRow base e 1 (.slice (some ⟨g, 0, none⟩) m cap) m ((d.take m).map sv) ∧ Below base w (Sort.grow (Sort.putRow encStr (Sort.ahead w q) g 0 d.toArray) os) := by
  rcases h.2 with ⟨hv, _⟩ | ⟨g', cap', cur, hv, hbase, hg, hnc, hcm, hsz, htk⟩
  · cases hv
  · injection hv with e1 e2 e3
    injection e1 with e1
    injection e1 with e1
    subst e1 e3
    have hlt : g < w.heap.size := by
      rcases Nat.lt_or_ge g w.heap.size with h | h
      · exact h
      · rw [Array.getElem?_eq_none h] at hg; cases hg
    have hhp : (Sort.grow (Sort.putRow encStr (Sort.ahead w q) g 0 d.toArray) os).heap[g]? = some (.cells (Sort.putCells encStr 0 d.toArray cur) e (0, 0)) := by
      rw [Sort.heap_grow_old _ _ (by simpa using hlt)]
      simp only [Sort.putRow, Sort.mapBlock, Sort.heap_ahead, Array.getElem?_modify, if_true, hg, Option.map_some]
      rfl
    refine ⟨⟨by simp; omega, .inr ⟨g, cap, _, rfl, hbase, hhp, by omega, hcm, ?_, ?_⟩⟩, ⟨rfl, rfl, rfl, ?_, ?_⟩⟩
    · simp [Sort.putCells]; omega
    · apply List.ext_getElem
      · simp [Sort.putCells]; omega
      · intro i h1 h2
        simp only [List.length_map, List.length_take] at h2
        have hi : i < d.length := by omega
        simp [Sort.putCells, hi]
    · simp
    · intro k hk
      have hkg : ¬ g = k := by omega
      rw [Sort.heap_grow_old _ _ (by simp; omega)]
      simp [Sort.putRow, Sort.mapBlock, Array.getElem?_modify, hkg]

theorem own_holds {w : World} {base : Nat} {e : TypeId} {g n cap : Nat} {all : List Wd} (h : w.ownsRow base e 1 (.slice (some ⟨g, 0, none⟩) n cap) n (all.map sv)) : Sort.Holds encStr w g 0 all.toArray ∧ g < w.heap.size ∧ n = all.length ∧ n ≤ cap := by
  obtain ⟨hn, hr⟩ := own_row [] h
  have hlt := (h.lt g rfl).2
  obtain ⟨A, c, hv, hc⟩ := own_slice h
  injection hv with _ _ hv3
  refine ⟨fun j hj => ⟨?_, ?_⟩, hlt, hn, by omega⟩
  · obtain ⟨b, o, ea, _, hcell⟩ := hr (by rw [hn]; simp at hj; omega)
    injection ea with ea
    injection ea with e1 e2 _
    subst e1 e2
    simp only [List.size_toArray] at hj
    have := hcell j (by omega)
    rw [this]
    simp [sv, encStr, hj]
  · have := h.frozenAt j
    rw [Nat.zero_add]
    exact this

theorem sort_any (all : List Wd) (A : Option Addr) (n c base : Nat) (w : World) (h : w.ownsRow base 9 1 (.slice A n c) n (all.map sv)) (hn : n ≤ 8589934592) :
    Calls Tryz.prog 88 #[.slice A n c] w fun e w' => e = .returned (.tuple #[]) ∧ w'.ownsRow base 9 1 (.slice A n c) n ((all.mergeSort fun x y => decide (x ≤ y)).map sv) ∧ Below base w w' := by
  by_cases h0 : n = 0
  · subst h0
    have : all = [] := by have := h.1; simp at this; exact this
    subst this
    refine (Tryz.slices_Sort_string_none A c w).mono ?_
    rintro e w' ⟨rfl, rfl⟩
    exact ⟨rfl, by simpa using h, Below.refl _ _⟩
  · obtain ⟨g, cap, hv, _, _⟩ := h.form (by omega)
    injection hv with hA _ hc
    subst hA hc
    obtain ⟨hH, hlt, hl, _⟩ := own_holds h
    subst hl
    refine (Tryz.slices_Sort_string g 0 c all w hH hlt (by omega)).mono ?_
    rintro e w' ⟨rfl, q, os, rfl⟩
    have := own_put (q := q) (os := os) (m := all.length) h (d := all.mergeSort fun x y => decide (x ≤ y)) (List.length_mergeSort all) (Nat.le_refl _)
    rw [List.take_of_length_le (by rw [List.length_mergeSort]; exact Nat.le_refl _)] at this
    exact ⟨rfl, this⟩

theorem compact_any (zs : List Wd) (A : Option Addr) (n c base : Nat) (w : World) (h : w.ownsRow base 9 1 (.slice A n c) n (zs.map sv)) (hn : n ≤ 8589934592) :
    Calls Tryz.prog 89 #[.slice A n c] w fun e w' => e = .returned (.slice A (Lib.compact zs).length c) ∧ w'.ownsRow base 9 1 (.slice A (Lib.compact zs).length c) (Lib.compact zs).length ((Lib.compact zs).map sv) ∧ Below base w w' := by
  by_cases h0 : n = 0
  · subst h0
    have : zs = [] := by have := h.1; simp at this; exact this
    subst this
    refine (Tryz.slices_Compact_string_empty A c w).mono ?_
    rintro e w' ⟨rfl, rfl⟩
    exact ⟨rfl, h, Below.refl _ _⟩
  · obtain ⟨g, cap, hv, _, _⟩ := h.form (by omega)
    injection hv with hA _ hc
    subst hA hc
    obtain ⟨hH, hlt, hl, hcap⟩ := own_holds h
    subst hl
    have hcl : (Lib.compact zs).length ≤ zs.length := by
      unfold Lib.compact Lib.compactUpTo
      rw [List.length_map]
      exact Nat.le_trans (List.length_filter_le _ _) (by rw [List.length_range]; exact Nat.le_refl _)
    refine (Tryz.slices_Compact_string g 0 c zs w hH (by omega) hcap).mono ?_
    rintro e w' ⟨rfl, q, rfl⟩
    have := own_put (q := q) (os := #[]) (m := (Lib.compact zs).length) h (d := Lib.compact zs ++ List.replicate (zs.length - (Lib.compact zs).length) []) (by simp; omega) hcl
    rw [List.take_left, Sort.grow_empty] at this
    exact ⟨rfl, this⟩

end Go.Proofs.YtoejenejleocdabGreatDoor

/- What text.Read answers. -/
namespace Go.Proofs.YtoejenejleocdabGreatDoor
open Go.RowKit Tx

/-- a book's value, and what it leads to -/
abbrev bookV (A : Option Addr) (n c : Nat) (A2 : Option Addr) (n2 c2 : Nat) : Value := .agg #[.slice A n c, .slice A2 n2 c2]
def zeroBook : Nat → Value := fun _ => .slice none 0 0
theorem setT2 {w : World} {b : Nat} {t : TypeId} {f : Nat → Value} (h : w.rowIs b t 2 f) (v0 v1 : Value) :
    (w.setCell ⟨b, 0, none⟩ v0).cell? ⟨b, 0, none⟩ = some v0 ∧ ((w.setCell ⟨b, 0, none⟩ v0).setCell ⟨b, 1, none⟩ v1).cell? ⟨b, 0, none⟩ = some v0 ∧ ((w.setCell ⟨b, 0, none⟩ v0).setCell ⟨b, 1, none⟩ v1).cell? ⟨b, 1, none⟩ = some v1 :=
  ⟨(h.set 0 v0).cell (by omega), ((h.set 0 v0).set 1 v1).cell (by omega), ((h.set 0 v0).set 1 v1).cell (by omega)⟩

/-- the words and the text of a book in memory -/
structure BookAt (w : World) (A : Option Addr) (n c : Nat) (A2 : Option Addr) (n2 : Nat) (ws : List Wd) (T : List Int) : Prop where
  words : SRow w w.heap.size A ws
  wlen : n = ws.length
  wcap : n ≤ c
  text : IRow w w.heap.size A2 T
  tlen : n2 = T.length
theorem BookAt.on {w w' : World} {A : Option Addr} {n c : Nat} {A2 : Option Addr} {n2 : Nat} {ws : List Wd} {T : List Int} (h : BookAt w A n c A2 n2 ws T) (hb : Below w.heap.size w w') : BookAt w' A n c A2 n2 ws T :=
  ⟨h.words.on hb, h.wlen, h.wcap, h.text.on hb, h.tlen⟩

def ReadOK (l : Wd) (w : World) (e : Ending) (w' : World) : Prop :=
  ∃ A n c A2 n2 c2, e = .returned (.tuple #[bookV A n c A2 n2 c2, .int .i64 0]) ∧ BookAt w' A n c A2 n2 (bw (linesOf l)) (bt (linesOf l)) ∧ n2 ≤ c2 ∧ Below w.heap.size w w'

set_option maxHeartbeats 1000000 in
theorem read_long (l : Wd) (w : World) (h : 400 < l.length) :
    Calls Tryz.prog 52 #[sv l] w fun e w' => e = .returned (.tuple #[bookV none 0 0 none 0 0, .int .i64 2]) ∧ Below w.heap.size w w' := by
  have hd : decide ((400 : Int) < (l.length : Int)) = true := by simp; omega
  go_enter Tryz.func52, Tryz.ntmps52
  go_wp2
  exact bodyPost_ret (v := .tuple #[bookV none 0 0 none 0 0, .int .i64 2]) (by simp [results, Tryz.results52, go_sem]) rfl ⟨rfl, (Below.refl _ _).alloc (Nat.le_refl _) _⟩

theorem trim_any (l : Wd) (w : World) (hl : l.length ≤ 400) : Calls Tryz.prog 85 #[sv l, .string ⟨#[10]⟩] w fun e w' => e = .returned (sv (trimB l)) ∧ w = w' := by
  refine (Tryz.strings_TrimSuffix ⟨l.toArray⟩ ⟨#[10]⟩ w (by simpa [ByteArray.size] using (by omega : l.length ≤ 9223372036854775807))).mono ?_
  rintro e w' ⟨rfl, rfl⟩
  exact ⟨rfl, rfl⟩

/-- the start, as far as the lines and all words: then by cases -/
theorem flat_le : ∀ (l : Wd), (cutB l).flatten.length ≤ l.length + (sb l).length := by
  intro l
  have key : ∀ (ps : List Wd), ((ps.map fieldsB).flatten).length ≤ ps.flatten.length + ps.length := by
    intro ps
    induction ps with
    | nil => simp
    | cons p ps ih =>
      have h1 := fb_length p []
      simp only [List.map_cons, List.flatten_cons, List.length_append, List.length_cons] at ih ⊢
      unfold fieldsB at *
      omega
  have h2 : ∀ l : Wd, (sb l).flatten.length ≤ l.length := by
    intro l
    induction l with
    | nil => simp [sb]
    | cons c r ih =>
      unfold sb
      split
      · simp only [List.flatten_cons, List.length_append, List.length_nil, List.length_cons]; omega
      · cases hs : sb r with
        | nil => simp
        | cons x t => rw [hs] at ih; simp only [List.flatten_cons, List.length_append, List.length_cons] at ih ⊢; omega
  have := key (sb l)
  have := h2 l
  unfold cutB
  omega

end Go.Proofs.YtoejenejleocdabGreatDoor

/- The walk of text.Read. -/
namespace Go.Proofs.YtoejenejleocdabGreatDoor
open Go.RowKit Tx

def ReadPost (l : Wd) (w : World) (e : Ending) (w' : World) : Prop :=
  (errB l = 0 ∧ ReadOK l w e w') ∨ (errB l ≠ 0 ∧ e = .returned (.tuple #[bookV none 0 0 none 0 0, .int .i64 (errB l)]) ∧ Below w.heap.size w w')

theorem iv_row {w : World} {base n c : Nat} {e : TypeId} {A : Option Addr} {T : List Int} (h : w.ownsRow base e 1 (.slice A n c) n (iv T)) : n = T.length ∧ IRow w w.heap.size A T := by
  obtain ⟨h1, h2⟩ := own_row 0 h
  subst h1
  exact ⟨rfl, h2⟩

set_option maxHeartbeats 2000000 in
theorem read_small (l : Wd) (m : Int) (w : World) (hl : l.length ≤ 400) (hm : w.cell? ⟨1, 0, none⟩ = some (.int .i64 m)) : Calls Tryz.prog 52 #[sv l] w (ReadPost l w) := by
  have hd : decide ((400 : Int) < (l.length : Int)) = false := by simp; omega
  have htl := trimB_length l
  have hm1 : (w.alloc (.cells #[.slice none 0 0, .slice none 0 0] 43)).cell? ⟨1, 0, none⟩ = some (.int .i64 m) := by
    rw [World.cell?_alloc_lt _ _ _ (World.block_lt_of_cell? _ _ hm)]; exact hm
  have HM := Lib.hid hm1
  have hz : (w.alloc (.cells #[.slice none 0 0, .slice none 0 0] 43)).rowIs w.heap.size 43 2 zeroBook := World.rowIs_alloc w #[.slice none 0 0, .slice none 0 0] 43 zeroBook (fun i hi => by
    match i, hi with
    | 0, _ => rfl
    | 1, _ => rfl)
  have HE := Lib.hid (rfl : errB l = errB l)
  clear hm hm1
  have hfl : (linesOf l).flatten.length ≤ (trimB l).length + (sb (trimB l)).length := flat_le (trimB l)
  have hsl := sb_length (trimB l)
  have hcl : (linesOf l).length = (sb (trimB l)).length := by unfold linesOf cutB; rw [List.length_map]
  have HLn := Lib.hid (show linesOf l = cutB (trimB l) from rfl)
  go_enter Tryz.func52, Tryz.ntmps52
  go_wp2_with fail
  with_reducible refine (trim_any l _ hl).mono ?_
  rintro e w' ⟨rfl, rfl⟩
  go_wp2_with fail
  with_reducible refine (cut_any (trimB l) m _ (by omega) HM.out).mono ?_
  rintro e w1 ⟨A, c, rfl, hL, hb1⟩
  rw [← HLn.out] at hL ⊢
  have hb0 : Below w.heap.size w (w.alloc (.cells #[.slice none 0 0, .slice none 0 0] 43)) := (Below.refl _ w).alloc (Nat.le_refl _) _
  rw [World.size_alloc] at hb1
  have hz1 := hz.of_block (hb1.block w.heap.size (by omega))
  have hold1 := hb0.trans (hb1.mono (by omega))
  have hs1 : w.heap.size + 1 ≤ w1.heap.size := by have := hb1.size; simp at this; omega
  have HE : Hid (errB l = if (linesOf l).flatten.all isWord = false then 1 else if 100 < (linesOf l).flatten.length + (linesOf l).length then 2 else 0) := Lib.hid (by
    unfold errB; rw [if_neg (by omega)])
  have HTK := Lib.hid (toks_length (linesOf l))
  have HBW := Lib.hid (show bw (linesOf l) = Lib.compact ((linesOf l).flatten.mergeSort fun x y => decide (x ≤ y)) from rfl)
  have hlsl : (linesOf l).length ≤ 401 := by omega
  have hfll : (linesOf l).flatten.length ≤ 801 := by omega
  clear hfl hsl hcl htl hd hb1 hb0 hz HM
  have HCC := Lib.hid (concat_any (linesOf l) A (linesOf l).length c w1 hL rfl (by omega) (by omega))
  generalize hF : (linesOf l).flatten = F at *
  generalize hls : linesOf l = ls at *
  have HF := Lib.hid hF
  have Hls := Lib.hid hls
  clear hF hls
  go_wp2_with fail
  with_reducible refine HCC.out.mono ?_
  clear HCC
  rintro e w2 ⟨v, rfl, hown, hb2⟩
  obtain ⟨A3, c3, rfl, _⟩ := own_slice hown
  have HFO := Lib.hid (formed_any F A3 F.length c3 w2 (own_row [] hown).2 rfl (by omega))
  have hL2 := hL.below hb2
  have hz2 := hz1.of_block (hb2.block w.heap.size (by omega))
  have hold2 := hold1.trans (hb2.mono hold1.size)
  have hs2 := hb2.size
  clear hL hz1 hold1 hb2
  go_wp2_with fail
  with_reducible refine HFO.out.mono ?_
  clear HFO
  rintro e w3 ⟨rfl, hb3⟩
  have hown3 := own_below hown hb3
  have hL3 := hL2.below (hb3.mono hs2)
  have hz3 := hz2.of_block (hb3.block w.heap.size (by omega))
  have hold3 := hold2.trans (hb3.mono hold2.size)
  have hs3 := hb3.size
  clear hown hL2 hz2 hold2 hb3
  have z0 : w3.cell? ⟨w.heap.size, 0, none⟩ = some (.slice none 0 0) := hz3.cell (by omega)
  have z1 : w3.cell? ⟨w.heap.size, 1, none⟩ = some (.slice none 0 0) := hz3.cell (by omega)
  have f0 : w3.frozen? ⟨w.heap.size, 0, none⟩ = false := hz3.frozen _
  have f1 : w3.frozen? ⟨w.heap.size, 1, none⟩ = false := hz3.frozen _
  cases hall : F.all isWord
  · have HE1 : Hid (errB l = 1) := Lib.hid (by rw [HE.out, hall]; rfl)
    clear hall HE
    go_wp2
    obtain ⟨s0, s1, s2⟩ := setT2 hz3 (.slice none 0 0) (.slice none 0 0)
    refine bodyPost_ret (v := .tuple #[bookV none 0 0 none 0 0, .int .i64 1]) (by simp [results, Tryz.results52, go_sem, s1, s2]) rfl (.inr ⟨by rw [HE1.out]; decide, by rw [HE1.out], (hold3.setCell (by simp) _).setCell (by simp) _⟩)
  · by_cases h100 : 100 < F.length + ls.length
    · have HE1 : Hid (errB l = 2) := Lib.hid (by rw [HE.out, hall, if_neg (by simp), if_pos h100])
      have hd : decide ((100 : Int) < (F.length : Int) + (ls.length : Int)) = true := by simp; omega
      clear hall HE
      go_wp2
      obtain ⟨s0, s1, s2⟩ := setT2 hz3 (.slice none 0 0) (.slice none 0 0)
      refine bodyPost_ret (v := .tuple #[bookV none 0 0 none 0 0, .int .i64 2]) (by simp [results, Tryz.results52, go_sem, s1, s2]) rfl (.inr ⟨by rw [HE1.out]; decide, by rw [HE1.out], (hold3.setCell (by simp) _).setCell (by simp) _⟩)
    · have HE1 : Hid (errB l = 0) := Lib.hid (by rw [HE.out, hall, if_neg (by simp), if_neg h100])
      have hd : decide ((100 : Int) < (F.length : Int) + (ls.length : Int)) = false := by simp; omega
      clear hall HE z0 z1 f0 f1
      have HSo := Lib.hid (sort_any F A3 F.length c3 w1.heap.size w3 hown3 (by omega))
      go_wp2_with fail
      with_reducible refine HSo.out.mono ?_
      clear HSo hown3
      rintro e w4 ⟨rfl, hown4, hb4⟩
      have HCo := Lib.hid (compact_any _ A3 F.length c3 w1.heap.size w4 hown4 (by omega))
      rw [← HBW.out] at HCo
      have hz4 := hz3.of_block (hb4.block w.heap.size (by omega))
      have hL4 := hL3.below hb4
      have hold4 := hold3.trans (hb4.mono (by omega))
      have hs4 := hb4.size
      clear hown4 hb4 hz3 hL3 hold3
      go_wp2_with fail
      with_reducible refine HCo.out.mono ?_
      clear HCo
      rintro e w5 ⟨rfl, hown5, hb5⟩
      have hz5 := hz4.of_block (hb5.block w.heap.size (by omega))
      have hL5 := hL4.below hb5
      have hold5 := hold4.trans (hb5.mono (by omega))
      have hs5 := hb5.size
      clear hb5 hz4 hL4 hold4
      have hbl : (bw ls).length ≤ F.length := by rw [← HF.out, ← Hls.out]; exact bw_length _
      have htk : (toks ls).length ≤ F.length + ls.length := HTK.out
      have HNu := Lib.hid (numbersT_any (bw ls) ls A3 (bw ls).length c3 A ls.length c w5 (own_row [] hown5).2 rfl (hL5.more (by omega)) rfl (by omega) (by omega) (by omega))
      clear hL5
      have HAI := Lib.hid (bw_allIn ls)
      generalize hWS : bw ls = WS at *
      have HWS := Lib.hid hWS
      clear hWS
      go_wp2_with fail
      with_reducible refine HNu.out.mono ?_
      clear HNu
      rintro e w6 (⟨hin, v6, rfl, hown6, hb6⟩ | ⟨hno, _⟩)
      · have hz6 := hz5.of_block (hb6.block w.heap.size (by omega))
        have hold6 := hold5.trans (hb6.mono hold5.size)
        have hwd6 := own_below hown5 hb6
        have hs6 := hb6.size
        clear hz5 hold5 hown5 hb6 hin
        have hbA := (Below.refl w6.heap.size w6).alloc (Nat.le_refl _) (.cells #[.int .i64 1, .int .i64 0] 3)
        have hwdA := own_below hwd6 hbA
        have hownA := own_below hown6 hbA
        have hzA := hz6.of_block (hbA.block w.heap.size (by omega))
        have holdA := hold6.trans (hbA.mono hold6.size)
        have hrA : Row (w6.alloc (.cells #[.int .i64 1, .int .i64 0] 3)) (w6.alloc (.cells #[.int .i64 1, .int .i64 0] 3)).heap.size (some ⟨w6.heap.size, 0, none⟩) 2 (fun i => .int .i64 (if i = 0 then 1 else 0)) :=
          Row.of_rowIs (World.rowIs_alloc w6 #[.int .i64 1, .int .i64 0] 3 (fun i => .int .i64 (if i = 0 then 1 else 0)) (fun i hi => by
            match i, hi with
            | 0, _ => rfl
            | 1, _ => rfl)) (by simp)
        clear hz6 hold6 hwd6 hown6 hbA
        have hmx : (toks ls).length + 2 ≤ maxLen := by unfold maxLen; omega
        go_wp2_with (at_builtin; refine wpList_app_row _ rfl _ _ 22 rfl w5.heap.size 3 (.int .i64 0) 8 Tryz.underlying22 infoIntT rfl _ (toks ls).length (iv (nums (findIn WS) (toks ls))) rfl hownA (some ⟨w6.heap.size, 0, none⟩) 2 2 (fun i => .int .i64 (if i = 0 then 1 else 0)) rfl hrA (fun _ _ => rfl) hmx (by omega) (by simp; omega) ?_; intro v7 w7 hown7 hg7 hv7; obtain ⟨A7, c7, rfl, hc7⟩ := own_slice hown7; have hz7 := hzA.of_block (hg7.block w.heap.size (by simp; omega) (own_above hownA (by omega))); have z0 : w7.cell? ⟨w.heap.size, 0, none⟩ = some (.slice none 0 0) := hz7.cell (by omega); have z1 : w7.cell? ⟨w.heap.size, 1, none⟩ = some (.slice none 0 0) := hz7.cell (by omega); have f0 : w7.frozen? ⟨w.heap.size, 0, none⟩ = false := hz7.frozen _; have f1 : w7.frozen? ⟨w.heap.size, 1, none⟩ = false := hz7.frozen _)
        have hbt : iv (nums (findIn WS) (toks ls)) ++ (List.range 2).map (fun i => Value.int .i64 (if i = 0 then 1 else 0)) = iv (bt ls) := by
          rw [← HWS.out]; simp [iv, bt, List.range_succ]
        rw [hbt] at hown7
        have hwd7 := hwdA.kept hg7 (own_ne hwdA hownA (by decide))
        have hsA : w6.heap.size + 1 = (w6.alloc (.cells #[.int .i64 1, .int .i64 0] 3)).heap.size := by simp
        have hold7 := holdA.grown hg7 (by omega) (fun g hg => by have := (hownA.lt g hg).1; omega)
        obtain ⟨s0, s1, s2⟩ := setT2 hz7 (.slice A3 WS.length c3) (.slice A7 ((toks ls).length + 2) c7)
        refine bodyPost_ret (v := .tuple #[bookV A3 WS.length c3 A7 ((toks ls).length + 2) c7, .int .i64 0]) (by simp [results, Tryz.results52, go_sem, s1, s2]) rfl (.inl ⟨HE1.out, A3, WS.length, c3, A7, (toks ls).length + 2, c7, rfl, ?_, hc7, (hold7.setCell (by simp) _).setCell (by simp) _⟩)
        have hw9 := ownsRow_setCell_below (ownsRow_setCell_below hwd7 (a := ⟨w.heap.size, 0, none⟩) (by simp; omega) (.slice A3 WS.length c3)) (a := ⟨w.heap.size, 1, none⟩) (by simp; omega) (.slice A7 ((toks ls).length + 2) c7)
        have ht9 := ownsRow_setCell_below (ownsRow_setCell_below hown7 (a := ⟨w.heap.size, 0, none⟩) (by simp; omega) (.slice A3 WS.length c3)) (a := ⟨w.heap.size, 1, none⟩) (by simp; omega) (.slice A7 ((toks ls).length + 2) c7)
        obtain ⟨i1, i2⟩ := iv_row ht9
        obtain ⟨Ax, cx, hx, hxc⟩ := own_slice hw9
        injection hx with _ _ hx3
        rw [Hls.out, HWS.out]
        exact ⟨(own_row [] hw9).2, rfl, by omega, i2, i1⟩
      · exact absurd HAI.out (by rw [hno]; simp)

end Go.Proofs.YtoejenejleocdabGreatDoor

/- What text.Read answers of every text; what text.Signs answers. -/
namespace Go.Proofs.YtoejenejleocdabGreatDoor
open Go.RowKit Tx

theorem read_any (l : Wd) (m : Int) (w : World) (hm : w.cell? ⟨1, 0, none⟩ = some (.int .i64 m)) : Calls Tryz.prog 52 #[sv l] w (ReadPost l w) := by
  by_cases h : 400 < l.length
  · have he : errB l = 2 := by unfold errB; rw [if_pos h]
    refine (read_long l w h).mono ?_
    rintro e w' ⟨rfl, hb⟩
    exact .inr ⟨by rw [he]; decide, by rw [he], hb⟩
  · exact read_small l m w (by omega) hm

theorem toks_cut (l : Wd) : (cutB l).length ≤ l.length + 1 ∧ (toks (cutB l)).length ≤ 3 * l.length + 2 := by
  have h1 := toks_length (cutB l)
  have h2 := flat_le l
  have h3 := sb_length l
  have h4 : (cutB l).length = (sb l).length := by unfold cutB; rw [List.length_map]
  omega

set_option maxHeartbeats 1000000 in
theorem signs_yes (ws : List Wd) (l : Wd) (A : Option Addr) (n c : Nat) (A2 : Option Addr) (n2 c2 : Nat) (m : Int) (w : World) (hA : SRow w w.heap.size A ws) (hn : n = ws.length) (hb : n ≤ 4294967296) (hl : l.length ≤ 1000000000)
    (hm : w.cell? ⟨1, 0, none⟩ = some (.int .i64 m)) (hin : allIn (findIn ws) (cutB l) = true) :
    Calls Tryz.prog 26 #[bookV A n c A2 n2 c2, sv l] w fun e w' => ∃ A c, e = .returned (.tuple #[.slice A (toks (cutB l)).length c, .bool true]) ∧ (toks (cutB l)).length ≤ c ∧ IRow w' w'.heap.size A (nums (findIn ws) (toks (cutB l))) ∧ Below w.heap.size w w' := by
  obtain ⟨t1, t2⟩ := toks_cut l
  have hmlt := World.block_lt_of_cell? _ _ hm
  have hw0 : Below w.heap.size w (w.alloc (.cells #[.slice A n c, .slice A2 n2 c2] 43)) := (Below.refl _ w).alloc (Nat.le_refl _) _
  have hz : (w.alloc (.cells #[.slice A n c, .slice A2 n2 c2] 43)).cell? ⟨w.heap.size, 0, none⟩ = some (.slice A n c) := by simp
  have hws : w.heap.size < (w.alloc (.cells #[.slice A n c, .slice A2 n2 c2] 43)).heap.size := by simp
  have H1 := Lib.hid (fun W (h : Below w.heap.size w W) => cut_any l m W (by omega) ((h.cell (p := ⟨1, 0, none⟩) hmlt).trans hm))
  have H3 : Hid (∀ W, Below w.heap.size w W → ∀ A3 c3, LRow W W.heap.size A3 (cutB l) → Calls Tryz.prog 54 #[.slice A n c, .slice A3 (cutB l).length c3] W fun e w' => ∃ A c, e = .returned (.tuple #[.slice A (toks (cutB l)).length c, .bool true]) ∧ (toks (cutB l)).length ≤ c ∧ IRow w' w'.heap.size A (nums (findIn ws) (toks (cutB l))) ∧ Below w.heap.size w w' ∧ Below W.heap.size W w') := Lib.hid fun W h A3 c3 hL => by
    refine (numbersT_any ws (cutB l) A n c A3 (cutB l).length c3 W ((hA.below h).more h.size) hn hL rfl hb (by omega) (by omega)).mono ?_
    rintro e w' (⟨hi, v, rfl, hown, hb'⟩ | ⟨hi, rfl, hb'⟩)
    · obtain ⟨A4, c4, rfl, hc4⟩ := own_slice hown
      exact ⟨A4, c4, rfl, hc4, (iv_row hown).2, h.trans (hb'.mono h.size), hb'⟩
    · rw [hin] at hi; cases hi
  clear hA hn hm hmlt hin
  generalize hC : cutB l = ls at *
  have HC := Lib.hid hC
  clear hC
  go_enter Tryz.func26, Tryz.ntmps26
  go_wp2_with fail
  generalize w.alloc (.cells #[.slice A n c, .slice A2 n2 c2] 43) = W at *
  have hd0 := hw0.drew
  go_region_held3 (fun w' => w'.cell? ⟨w.heap.size, 0, none⟩ = some (.slice A n c)) (first | exact hz | go_keep)
    (first
      | (go_at_call 55; refine (H1.out _ ?_).mono ?_; (first | assumption | exact hd0); rintro e w3 ⟨A3, c3, rfl, hL3, hb3⟩; rw [HC.out] at hL3 ⊢; have k0 : w3.cell? ⟨w.heap.size, 0, none⟩ = some (.slice A n c) := (hb3.cell (p := ⟨w.heap.size, 0, none⟩) hws).trans hz; have o3 := hd0.trans (hb3.mono hd0.size))
      | (go_at_call 54; refine (H3.out _ ?_ _ _ ?_).mono ?_; assumption; assumption; rintro e w4 ⟨A4, c4, rfl, hc4, hr4, hb4, hb5⟩; have k1 : w4.cell? ⟨w.heap.size, 0, none⟩ = some (.slice A n c) := (hb5.cell (p := ⟨w.heap.size, 0, none⟩) (Nat.lt_of_lt_of_le hws hb3.size)).trans k0))
  all_goals
    go_wp2
    go_ret2
    exact ⟨_, _, rfl, hc4, hr4, hb4⟩

set_option maxHeartbeats 1000000 in
theorem signs_no (ws : List Wd) (l : Wd) (A : Option Addr) (n c : Nat) (A2 : Option Addr) (n2 c2 : Nat) (m : Int) (w : World) (hA : SRow w w.heap.size A ws) (hn : n = ws.length) (hb : n ≤ 4294967296) (hl : l.length ≤ 1000000000)
    (hm : w.cell? ⟨1, 0, none⟩ = some (.int .i64 m)) (hin : allIn (findIn ws) (cutB l) = false) :
    Calls Tryz.prog 26 #[bookV A n c A2 n2 c2, sv l] w fun e w' => e = .returned (.tuple #[.slice none 0 0, .bool false]) ∧ Below w.heap.size w w' := by
  obtain ⟨t1, t2⟩ := toks_cut l
  have hmlt := World.block_lt_of_cell? _ _ hm
  have hw0 : Below w.heap.size w (w.alloc (.cells #[.slice A n c, .slice A2 n2 c2] 43)) := (Below.refl _ w).alloc (Nat.le_refl _) _
  have hz : (w.alloc (.cells #[.slice A n c, .slice A2 n2 c2] 43)).cell? ⟨w.heap.size, 0, none⟩ = some (.slice A n c) := by simp
  have hws : w.heap.size < (w.alloc (.cells #[.slice A n c, .slice A2 n2 c2] 43)).heap.size := by simp
  have H1 := Lib.hid (fun W (h : Below w.heap.size w W) => cut_any l m W (by omega) ((h.cell (p := ⟨1, 0, none⟩) hmlt).trans hm))
  have H3 : Hid (∀ W, Below w.heap.size w W → ∀ A3 c3, LRow W W.heap.size A3 (cutB l) → Calls Tryz.prog 54 #[.slice A n c, .slice A3 (cutB l).length c3] W fun e w' => e = .returned (.tuple #[.slice none 0 0, .bool false]) ∧ Below w.heap.size w w' ∧ Below W.heap.size W w') := Lib.hid fun W h A3 c3 hL => by
    refine (numbersT_any ws (cutB l) A n c A3 (cutB l).length c3 W ((hA.below h).more h.size) hn hL rfl hb (by omega) (by omega)).mono ?_
    rintro e w' (⟨hi, v, rfl, hown, hb'⟩ | ⟨hi, rfl, hb'⟩)
    · rw [hin] at hi; cases hi
    · exact ⟨rfl, h.trans (hb'.mono h.size), hb'⟩
  clear hA hn hm hmlt hin
  generalize hC : cutB l = ls at *
  have HC := Lib.hid hC
  clear hC
  go_enter Tryz.func26, Tryz.ntmps26
  go_wp2_with fail
  generalize w.alloc (.cells #[.slice A n c, .slice A2 n2 c2] 43) = W at *
  have hd0 := hw0.drew
  go_region_held3 (fun w' => w'.cell? ⟨w.heap.size, 0, none⟩ = some (.slice A n c)) (first | exact hz | go_keep)
    (first
      | (go_at_call 55; refine (H1.out _ ?_).mono ?_; (first | assumption | exact hd0); rintro e w3 ⟨A3, c3, rfl, hL3, hb3⟩; rw [HC.out] at hL3 ⊢; have k0 : w3.cell? ⟨w.heap.size, 0, none⟩ = some (.slice A n c) := (hb3.cell (p := ⟨w.heap.size, 0, none⟩) hws).trans hz; have o3 := hd0.trans (hb3.mono hd0.size))
      | (go_at_call 54; refine (H3.out _ ?_ _ _ ?_).mono ?_; assumption; assumption; rintro e w4 ⟨rfl, hb4, hb5⟩; have k1 : w4.cell? ⟨w.heap.size, 0, none⟩ = some (.slice A n c) := (hb5.cell (p := ⟨w.heap.size, 0, none⟩) (Nat.lt_of_lt_of_le hws hb3.size)).trans k0))
  all_goals
    go_wp2
    go_ret2
    exact ⟨rfl, hb4⟩

end Go.Proofs.YtoejenejleocdabGreatDoor
