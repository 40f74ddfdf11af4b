import Derived.Test.YtoejenejleocdabGreatDoorJg
import Derived.Test.YtoejenejleocdabGreatDoorJh
import Derived.Test.YtoejenejleocdabGreatDoorJf
/- lessOf: for each number how many of a list are below it. -/
namespace Go.Proofs.YtoejenejleocdabGreatDoor
open Go.RowKit

theorem maxOf_most {l : List Int} (h : En.Sg l) : Lib.maxOf l = (En.most l : Int) := by
  have g : ∀ (l : List Int) (m : Int), 0 ≤ m → l.foldl max m = max m (En.most l : Int) := by
    intro l
    induction l with
    | nil => intro m hm; simp [En.most]; omega
    | cons x l ih =>
      intro m hm
      rw [List.foldl_cons, ih _ (by omega)]
      simp only [En.most, List.foldr_cons]
      omega
  have h0 := h.nn 0
  have hd : l.headD 0 = l.getD 0 0 := by cases l <;> rfl
  unfold Lib.maxOf
  rw [hd, g l _ h0]
  have := En.most_ge l 0
  omega

set_option maxHeartbeats 2000000 in
theorem lessOf_new (A : Option Addr) (c : Nat) (l : List Int) (w : World) (hr : IRow w w.heap.size A l) (hg : En.Sg l) (hs : l.length ≤ 4096) (hf : En.most l < 1024) :
    Calls Tryz.prog 47 #[.slice A l.length c] w fun e w' => ∃ g, e = .returned (.slice (some ⟨g, 0, none⟩) (En.most l + 2) (En.most l + 2)) ∧ w.heap.size ≤ g ∧ w'.rowIs g 3 (En.most l + 2) (fun j => .int .i64 (En.lessN l (j : Nat) : Nat)) ∧ Below w.heap.size w w' := by
  have hpos := hg.pos
  obtain ⟨b, o, rfl, hb, hc⟩ := hr hpos
  have HM := Lib.hid (Tryz.slices_Max_int b o l.length c l w hpos (Nat.le_refl _) (by omega) hc)
  rw [List.take_length, maxOf_most hg] at HM
  obtain ⟨M, hM⟩ : ∃ M, M = En.most l + 2 := ⟨_, rfl⟩
  rw [show ((En.most l : Nat) : Int) = (M : Int) - 2 from by omega] at HM
  have HR : Hid (∀ W : World, Below w.heap.size w W → ∀ i, i < l.length → W.cell? ⟨b, o + i, none⟩ = some (.int .i64 (l.getD i 0))) := Lib.hid fun W hW i hi => (hW.cell (p := ⟨b, o + i, none⟩) hb).trans (hc i hi)
  have HX : Hid (∀ i, i < l.length → ∃ q : Nat, l.getD i 0 = (q : Int) ∧ q + 2 ≤ M) := Lib.hid fun i hi => by
    have h1 := hg.nn i
    have h2 := En.most_ge l i
    exact ⟨(l.getD i 0).toNat, by omega, by omega⟩
  have HCs : Hid (∀ k (q j : Nat), k < l.length → l.getD k 0 = (q : Int) → En.cntL l (k + 1) j = if j = q + 1 then En.cntL l k (q + 1) + 1 else En.cntL l k j) := Lib.hid fun k q j hk hq => by
    rw [En.cntL_succ l k j hk, hq]
    by_cases e : j = q + 1
    · subst e; rw [if_pos rfl, if_pos ⟨by omega, by omega⟩]
    · rw [if_neg e, if_neg (by omega)]
  have HC0 := Lib.hid (En.cntL_zero l)
  have HCl := Lib.hid (En.cntL_le l)
  have HLs := Lib.hid (En.lessN_succ l)
  have HLz := Lib.hid (En.lessN_zero hg)
  have HLb := Lib.hid (fun x : Nat => En.lessN_le l x)
  rw [← hM]
  have hM2 : M ≤ 1026 := by omega
  have hM3 : 2 ≤ M := by omega
  have hmk := run_make_row' (P := Tryz.prog) 22 3 (.int .i64 0) 8 Tryz.underlying22 infoInt4 rfl .i64 .i64 M (by omega) (by omega)
  have hrow := World.rowIs_made w (.int .i64 0) M 3
  have hbel : Below w.heap.size w (w.alloc (.cells (madeCells #[.int .i64 0] M) 3)) := (Below.refl _ _).alloc (Nat.le_refl _) _
  clear hr hg hf hM hc
  generalize hnn : l.length = n at *
  clear hnn
  go_enter Tryz.func47, Tryz.ntmps47
  go_wp2_with fail
  with_reducible refine HM.out.mono ?_
  rintro e w' ⟨rfl, rfl⟩
  clear HM
  go_wp2
  go_loopw [13] (fun s W => ∃ k : Nat, k ≤ n ∧ s = .int .i64 k ∧ W.rowIs w'.heap.size 3 M (fun j => .int .i64 (En.cntL l k j : Nat)) ∧ Below w'.heap.size w' W) (fun s _ => n - (intOf s).toNat)
  case atStart => exact ⟨0, Nat.zero_le _, rfl, hrow.congr (fun j _ => by rw [HC0.out]; rfl), hbel⟩
  case round =>
    obtain ⟨k, hk, rfl, hrf, hbf⟩ := hrel
    clear hrow hbel hmk
    by_cases hlt : k < n
    · obtain ⟨q, hq, hqM⟩ := HX.out k hlt
      have hc1 := HR.out wr hbf k hlt
      rw [hq] at hc1
      have d1 : wr.cell? ⟨w'.heap.size, q + 1, none⟩ = some (.int .i64 ((En.cntL l k (q + 1) : Nat) : Int)) := hrf.cell (by omega)
      have fz := hrf.frozen (q + 1)
      have hle := HCl.out k (q + 1)
      have hz : (k : Int) < (n : Int) := by omega
      have hz2 : (q : Int) + 1 < (M : Int) := by omega
      have hr1 := (hrf.set (q + 1) (.int .i64 ((En.cntL l k (q + 1) : Nat) + 1 : Int))).congr (g := fun j => .int .i64 ((En.cntL l (k + 1) j : Nat) : Int)) (fun j _ => by
        rw [HCs.out k q j hlt hq]
        by_cases h : j = q + 1 <;> simp [h])
      have hb1 := hbf.setCell (p := ⟨w'.heap.size, q + 1, none⟩) (Nat.le_refl _) (.int .i64 ((En.cntL l k (q + 1) : Nat) + 1 : Int))
      clear hq HCs
      generalize En.cntL l k (q + 1) = m at *
      go_wp2
      go_roundw
      case rel => exact ⟨k + 1, by omega, by go_num, hr1, hb1⟩
      case measure => simp [intOf]; omega
    · obtain rfl : k = n := by omega
      generalize wr = V at *
      clear HX HR HCs HC0
      go_wp2
      go_loopw [6] (fun s W => ∃ i : Nat, 1 ≤ i ∧ i ≤ M ∧ s = .int .i64 i ∧ W.rowIs w'.heap.size 3 M (fun j => .int .i64 ((if j < i then En.lessN l (j : Nat) else En.cntL l k j : Nat) : Int)) ∧ Below w'.heap.size w' W) (fun s _ => M - (intOf s).toNat)
      case atStart => exact ⟨1, Nat.le_refl _, by omega, rfl, hrf.congr (fun j _ => by
        by_cases h : j < 1
        · obtain rfl : j = 0 := by omega
          rw [if_pos h]
          have e1 : En.lessN l ((0 : Nat) : Int) = 0 := HLz.out
          rw [e1]; rfl
        · rw [if_neg h]), hbf⟩
      case round =>
        obtain ⟨i, hi1, hi2, rfl, hrg, hbg⟩ := hrel
        clear hrf hbf
        by_cases hlt2 : i < M
        · obtain ⟨p, rfl⟩ : ∃ p, i = p + 1 := ⟨i - 1, by omega⟩
          have d0 : wr.cell? ⟨w'.heap.size, p, none⟩ = some (.int .i64 ((En.lessN l (p : Nat) : Nat) : Int)) := by have := hrg.cell (i := p) (by omega); simpa using this
          have d1 : wr.cell? ⟨w'.heap.size, p + 1, none⟩ = some (.int .i64 ((En.cntL l k (p + 1) : Nat) : Int)) := by have := hrg.cell (i := p + 1) hlt2; simpa using this
          have fz := hrg.frozen (p + 1)
          have e1 : En.lessN l ((p + 1 : Nat) : Int) = En.lessN l (p : Nat) + En.cntL l k (p + 1) := HLs.out p
          have b1 := HLb.out p
          have b2 := HCl.out k (p + 1)
          have hz : ((p : Int) + 1) < (M : Int) := by omega
          have hr1 := (hrg.set (p + 1) (.int .i64 ((En.cntL l k (p + 1) : Nat) + (En.lessN l (p : Nat) : Nat) : Int))).congr (g := fun j => .int .i64 ((if j < p + 1 + 1 then En.lessN l (j : Nat) else En.cntL l k j : Nat) : Int)) (fun j _ => by
            by_cases h : j = p + 1
            · subst h
              rw [if_pos rfl, if_pos (by omega), e1]
              congr 1; omega
            · rw [if_neg h]
              by_cases h2 : j < p + 1
              · rw [if_pos h2, if_pos (by omega)]
              · rw [if_neg h2, if_neg (by omega)])
          have hb1 := hbg.setCell (p := ⟨w'.heap.size, p + 1, none⟩) (Nat.le_refl _) (.int .i64 ((En.cntL l k (p + 1) : Nat) + (En.lessN l (p : Nat) : Nat) : Int))
          clear e1 HLs
          generalize En.cntL l k (p + 1) = x at *
          generalize En.lessN l (p : Nat) = y at *
          go_wp2
          go_region
          all_goals go_wp2
          all_goals
            go_roundw
            case rel => exact ⟨p + 1 + 1, by omega, by omega, by go_num, hr1.drew, hb1.drew⟩
            case measure => simp [intOf]; omega
        · obtain rfl : i = M := by omega
          have hrg' := hrg.congr (g := fun j => .int .i64 ((En.lessN l (j : Nat) : Nat) : Int)) (fun j hj => by rw [if_pos hj])
          clear hrg
          go_wp2
          go_ret
          exact ⟨w'.heap.size, rfl, Nat.le_refl _, hrg', hbg⟩

/-- such a row holds the numbers -/
theorem less_row {l : List Int} {g : Nat} {W : World} (h : W.rowIs g 3 (En.most l + 2) (fun j => .int .i64 (En.lessN l (j : Nat) : Nat))) : IRow W W.heap.size (some ⟨g, 0, none⟩) (En.lessL l) := by
  unfold IRow
  rw [En.lessL_length]
  exact (row_of_rowIs h).congr (fun i hi => by rw [En.lessL_get l i hi])

end Go.Proofs.YtoejenejleocdabGreatDoor

/- Make: the index of a list of signs. -/
namespace Go.Proofs.YtoejenejleocdabGreatDoor
open Go.RowKit
attribute [local irreducible] Bt.pop Bt.popF

/-- fiveC cells -/
def cmF (a b c d e : Value) : Nat → Value := fun j => if j = 0 then a else if j = 1 then b else if j = 2 then c else if j = 3 then d else e
theorem cmF_alloc (w : World) (a b c d e : Value) (ty : TypeId) : (w.alloc (.cells #[a, b, c, d, e] ty)).rowIs w.heap.size ty 5 (cmF a b c d e) :=
  World.rowIs_alloc w #[a, b, c, d, e] ty (cmF a b c d e) (fun i hi => by
    match i, hi with
    | 0, _ => rfl
    | 1, _ => rfl
    | 2, _ => rfl
    | 3, _ => rfl
    | 4, _ => rfl)
theorem set5 {w : World} {b : Nat} {t : TypeId} {f : Nat → Value} (h : w.rowIs b t 5 f) (v0 v1 v2 v3 v4 : Value) :
    (((((w.setCell ⟨b, 0, none⟩ v0).setCell ⟨b, 1, none⟩ v1).setCell ⟨b, 2, none⟩ v2).setCell ⟨b, 3, none⟩ v3).setCell ⟨b, 4, none⟩ v4).rowIs b t 5 (cmF v0 v1 v2 v3 v4) :=
  (((((h.set 0 v0).set 1 v1).set 2 v2).set 3 v3).set 4 v4).congr (fun i hi => by
    match i, hi with
    | 0, _ => rfl
    | 1, _ => rfl
    | 2, _ => rfl
    | 3, _ => rfl
    | 4, _ => rfl)
theorem below5 {w0 w : World} {b n : Nat} (h : Below n w0 w) (hb : n ≤ b) (v0 v1 v2 v3 v4 : Value) : Below n w0 (((((w.setCell ⟨b, 0, none⟩ v0).setCell ⟨b, 1, none⟩ v1).setCell ⟨b, 2, none⟩ v2).setCell ⟨b, 3, none⟩ v3).setCell ⟨b, 4, none⟩ v4) :=
  ((((h.setCell (p := ⟨b, 0, none⟩) hb v0).setCell (p := ⟨b, 1, none⟩) hb v1).setCell (p := ⟨b, 2, none⟩) hb v2).setCell (p := ⟨b, 3, none⟩) hb v3).setCell (p := ⟨b, 4, none⟩) hb v4
/-- a row's fiveC cells, and that they may be written -/
theorem fiveC {W : World} {b : Nat} {t : TypeId} {v0 v1 v2 v3 v4 : Value} (h : W.rowIs b t 5 (cmF v0 v1 v2 v3 v4)) :
    W.cell? ⟨b, 0, none⟩ = some v0 ∧ W.cell? ⟨b, 1, none⟩ = some v1 ∧ W.cell? ⟨b, 2, none⟩ = some v2 ∧ W.cell? ⟨b, 3, none⟩ = some v3 ∧ W.cell? ⟨b, 4, none⟩ = some v4 :=
  ⟨h.cell (i := 0) (by omega), h.cell (i := 1) (by omega), h.cell (i := 2) (by omega), h.cell (i := 3) (by omega), h.cell (i := 4) (by omega)⟩

theorem ahead_ends {l : List Int} (hg : En.Sg l) : En.aheadOf l (endsI l) = up (En.an l) := En.an_up hg
theorem an_lt {l : List Int} (hf : En.most l < 1024) : ∀ n ∈ En.an l, n < 2 ^ 10 := by
  intro n hn
  unfold En.an at hn
  rw [List.mem_map] at hn
  obtain ⟨i, _, rfl⟩ := hn
  have := En.most_ge l (if En.eat l i = 0 then l.length - 1 else En.eat l i - 1)
  unfold En.ah
  omega
/-- the result's block, in the middle of Make -/
structure MK (w : World) (A : Option Addr) (l : List Int) (W : World) : Prop where
  res : W.rowIs w.heap.size 33 5 (cmF (.slice none 0 0) (.int .i64 0) (.int .i64 0) (.slice none 0 0) (.slice none 0 0))
  row : IRow W W.heap.size A l
  old : Below w.heap.size w W
theorem MK.on {w : World} {A : Option Addr} {l : List Int} {W W' : World} (h : MK w A l W) (hb : Below W.heap.size W W') : MK w A l W' :=
  ⟨h.res.of_block (hb.block _ h.res.lt), h.row.on hb, h.old.trans (hb.mono h.old.size)⟩

theorem ends_row {l : List Int} {g : Nat} {W : World} (h : W.rowIs g 3 l.length (places (En.endsOf l))) : IRow W W.heap.size (some ⟨g, 0, none⟩) (endsI l) := by
  show Row W W.heap.size _ (endsI l).length _
  rw [endsI_length]
  exact (row_of_rowIs h).congr (fun i _ => endsI_places l i)
/-- a row in another block than the one that is written -/
theorem row5 {w : World} {g b : Nat} {t : TypeId} {n : Nat} {f : Nat → Value} (h : w.rowIs g t n f) (hb : b ≠ g) (v0 v1 v2 v3 v4 : Value) : (((((w.setCell ⟨b, 0, none⟩ v0).setCell ⟨b, 1, none⟩ v1).setCell ⟨b, 2, none⟩ v2).setCell ⟨b, 3, none⟩ v3).setCell ⟨b, 4, none⟩ v4).rowIs g t n f :=
  ((((h.setOther (a := ⟨b, 0, none⟩) hb.symm v0).setOther (a := ⟨b, 1, none⟩) hb.symm v1).setOther (a := ⟨b, 2, none⟩) hb.symm v2).setOther (a := ⟨b, 3, none⟩) hb.symm v3).setOther (a := ⟨b, 4, none⟩) hb.symm v4

/-- the index of l in blocks from base on -/
def CmbO (base : Nat) (E L S : Option Addr) (cL : Nat) (l : List Int) (W : World) : Prop :=
  ∃ x b xs g, E = some ⟨x, 0, none⟩ ∧ S = some ⟨g, 0, none⟩ ∧ base ≤ x ∧ base ≤ b ∧ base ≤ g ∧ W.rowIs x 3 l.length (places (En.endsOf l)) ∧ LvO b (En.an l) 10 10 (.slice L 10 cL) xs W ∧ W.rowIs g 3 (En.most l + 2) (fun j => .int .i64 (En.lessN l (j : Nat) : Nat))
theorem CmbO.on {base : Nat} {E L S : Option Addr} {cL : Nat} {l : List Int} {W W' : World} (h : CmbO base E L S cL l W) (hb : Below W.heap.size W W') : CmbO base E L S cL l W' := by
  obtain ⟨x, b, xs, g, e1, e2, h1, h2, h3, h4, h5, h6⟩ := h
  exact ⟨x, b, xs, g, e1, e2, h1, h2, h3, h4.of_block (hb.block _ h4.lt), h5.on hb, h6.of_block (hb.block _ h6.lt)⟩
theorem CmbO.low {base : Nat} {E L S : Option Addr} {cL : Nat} {l : List Int} {W : World} (h : CmbO base E L S cL l W) (p : Addr) (u : Value) (hp : p.block < base) : CmbO base E L S cL l (W.setCell p u) := by
  obtain ⟨x, b, xs, g, e1, e2, h1, h2, h3, h4, h5, h6⟩ := h
  exact ⟨x, b, xs, g, e1, e2, h1, h2, h3, h4.setOther (a := p) (by omega) u, h5.low p u (by omega), h6.setOther (a := p) (by omega) u⟩
theorem CmbO.cmb {base : Nat} {E L S : Option Addr} {cL : Nat} {l : List Int} {W : World} (h : CmbO base E L S cL l W) (hsg : En.Sg l) (hs : l.length ≤ 4096) (hf : En.most l < 1024) : Cmb W E L S l := by
  obtain ⟨x, b, xs, g, rfl, rfl, h1, h2, h3, h4, h5, h6⟩ := h
  exact ⟨hsg, ends_row h4, h5.wave (an_lt hf) (by omega) (by omega) (by rw [En.an_length]; omega), less_row h6, hs, hf⟩

set_option maxHeartbeats 1000000 in
theorem combMake_own (A : Option Addr) (c : Nat) (l : List Int) (w : World) (hr : IRow w w.heap.size A l) (hcap : l.length ≤ c) (hg : En.good l = true) (hs : l.length ≤ 4096) (hf : En.most l < 1024) :
    Calls Tryz.prog 19 #[.slice A l.length c] w fun e w' => ∃ E L S cE cL cS, e = .returned (.tuple #[.agg #[.slice E l.length cE, .int .i64 l.length, .int .i64 10, .slice L 10 cL, .slice S (En.most l + 2) cS], .bool true]) ∧ l.length ≤ cE ∧ 10 ≤ cL ∧ CmbO w.heap.size E L S cL l w' ∧ Below w.heap.size w w' := by
  have hsg := En.Sg.of_good hg
  obtain ⟨V, hV⟩ : ∃ V, V = w.alloc (.cells #[.slice none 0 0, .int .i64 0, .int .i64 0, .slice none 0 0, .slice none 0 0] 33) := ⟨_, rfl⟩
  have hb : Below w.heap.size w V := by rw [hV]; exact (Below.refl _ _).alloc (Nat.le_refl _) _
  have J : MK w A l V := ⟨by rw [hV]; exact cmF_alloc _ _ _ _ _ _ _, hr.on hb, hb⟩
  have HG := Lib.hid (fun W (hW : MK w A l W) => (goodL_any A c l W hW.row (by omega) hcap).mono fun e w' hh => And.intro hh.1 (hW.on hh.2))
  rw [hg] at HG
  have HE := Lib.hid (fun W (hW : MK w A l W) => (ends_any A l.length c l W hW.row rfl (by omega)).mono (R' := fun e w' => ∃ x, e = .returned (.slice (some ⟨x, 0, none⟩) l.length l.length) ∧ w.heap.size < x ∧ w'.rowIs x 3 l.length (places (En.endsOf l)) ∧ MK w A l w') fun e w' ⟨x, h1, h2, h3, h4⟩ => ⟨x, h1, Nat.lt_of_lt_of_le hW.res.lt h2, h3, hW.on h4⟩)
  have HA : Hid (∀ W x, MK w A l W → W.rowIs x 3 l.length (places (En.endsOf l)) → Calls Tryz.prog 46 #[.slice A l.length c, .slice (some ⟨x, 0, none⟩) l.length l.length] W fun e w' => ∃ Y cy, e = .returned (.slice Y l.length cy) ∧ IRow w' w'.heap.size Y (up (En.an l)) ∧ w'.rowIs x 3 l.length (places (En.endsOf l)) ∧ MK w A l w') := Lib.hid fun W x hW hX => by
    have := ahead_any A (some ⟨x, 0, none⟩) c l.length l (endsI l) W hW.row (ends_row hX) (by omega) (by rw [endsI_length]; omega)
    rw [endsI_length, ahead_ends hsg] at this
    refine this.mono ?_
    rintro e w' ⟨Y, cy, h1, h2, h3⟩
    rw [up_len, En.an_length] at h1
    exact ⟨Y, cy, h1, h2, hX.of_block (h3.block _ hX.lt), hW.on h3⟩
  have HM : Hid (∀ W x Y cy, MK w A l W → W.rowIs x 3 l.length (places (En.endsOf l)) → IRow W W.heap.size Y (up (En.an l)) → Calls Tryz.prog 45 #[.slice Y l.length cy, .int .i64 10] W fun e w' => ∃ Z cz base xs, e = .returned (.tuple #[.agg #[.int .i64 l.length, .int .i64 10, .slice Z 10 cz], .bool true]) ∧ 10 ≤ cz ∧ w.heap.size < base ∧ LvO base (En.an l) 10 10 (.slice Z 10 cz) xs w' ∧ w'.rowIs x 3 l.length (places (En.endsOf l)) ∧ MK w A l w') := Lib.hid fun W x Y cy hW hX hY => by
    have := make_new_lv Y cy (En.an l) 10 W (NRow.of_ints hY) (by omega) (by omega) (an_lt hf) (by rw [En.an_length]; omega)
    rw [En.an_length] at this
    refine this.mono ?_
    rintro e w' ⟨Z, cz, base, xs, h1, h2, h5, h3, h4⟩
    rw [En.an_length] at h1
    exact ⟨Z, cz, base, xs, h1, h2, Nat.lt_of_lt_of_le hW.res.lt h5, h3, hX.of_block (h4.block _ hX.lt), hW.on h4⟩
  have HL : Hid (∀ W, MK w A l W → Calls Tryz.prog 47 #[.slice A l.length c] W fun e w' => ∃ g, e = .returned (.slice (some ⟨g, 0, none⟩) (En.most l + 2) (En.most l + 2)) ∧ w.heap.size < g ∧ w'.rowIs g 3 (En.most l + 2) (fun j => .int .i64 (En.lessN l (j : Nat) : Nat)) ∧ Below W.heap.size W w' ∧ MK w A l w') := Lib.hid fun W hW => by
    refine (lessOf_new A c l W hW.row hsg hs hf).mono ?_
    rintro e w' ⟨g, h1, h2, h3, h4⟩
    exact ⟨g, h1, Nat.lt_of_lt_of_le hW.res.lt h2, h3, h4, hW.on h4⟩
  have HCm : Hid (∀ (W : World) (x : Nat) (Z : Option Addr) (cz base : Nat) (xs : List Value) (g : Nat), w.heap.size < x → w.heap.size < base → w.heap.size < g → W.rowIs x 3 l.length (places (En.endsOf l)) → LvO base (En.an l) 10 10 (.slice Z 10 cz) xs W → W.rowIs g 3 (En.most l + 2) (fun j => .int .i64 (En.lessN l (j : Nat) : Nat)) → ∀ v0 v1 v2 v3 v4 : Value, CmbO w.heap.size (some ⟨x, 0, none⟩) Z (some ⟨g, 0, none⟩) cz l (((((W.setCell ⟨w.heap.size, 0, none⟩ v0).setCell ⟨w.heap.size, 1, none⟩ v1).setCell ⟨w.heap.size, 2, none⟩ v2).setCell ⟨w.heap.size, 3, none⟩ v3).setCell ⟨w.heap.size, 4, none⟩ v4)) := Lib.hid fun W x Z cz base xs g hx hb hg h1 h2 h3 v0 v1 v2 v3 v4 =>
    ⟨x, base, xs, g, rfl, rfl, by omega, by omega, by omega, row5 h1 (by omega) v0 v1 v2 v3 v4, ((((h2.low ⟨w.heap.size, 0, none⟩ v0 hb).low ⟨w.heap.size, 1, none⟩ v1 hb).low ⟨w.heap.size, 2, none⟩ v2 hb).low ⟨w.heap.size, 3, none⟩ v3 hb).low ⟨w.heap.size, 4, none⟩ v4 hb, row5 h3 (by omega) v0 v1 v2 v3 v4⟩
  have HV := Lib.hid hV
  have hz : ¬ ((4096 : Int) < (l.length : Int)) := by omega
  clear hV hr hg hsg hb
  generalize hnn : l.length = n at *
  have Hn := Lib.hid hnn
  generalize hmm : En.most l + 2 = m at *
  clear hnn hmm hf
  go_enter Tryz.func19, Tryz.ntmps19
  go_wp2_with fail
  rw [← HV.out]
  with_reducible refine (HG.out _ J).mono ?_
  rintro e w1 ⟨rfl, J1⟩
  clear HG J HV
  go_wp2_with fail
  with_reducible refine (HE.out _ J1).mono ?_
  rintro e w2 ⟨x, rfl, hxl, hX, J2⟩
  clear HE J1
  go_wp2_with fail
  with_reducible refine (HA.out _ _ J2 hX).mono ?_
  rintro e w3 ⟨Y, cy, rfl, hY, hX3, J3⟩
  clear HA J2 hX
  go_wp2_with fail
  with_reducible refine (HM.out _ _ _ _ J3 hX3 hY).mono ?_
  rintro e w4 ⟨Z, cz, base, xs, rfl, hcz, hbl, hZ4, hX4, J4⟩
  clear HM J3 hY hX3
  obtain ⟨W5, hW5⟩ : ∃ W5, W5 = w4.alloc (.cells #[.int .i64 n, .int .i64 10, .slice Z 10 cz] 31) := ⟨_, rfl⟩
  have hb5 : Below w4.heap.size w4 W5 := by rw [hW5]; exact (Below.refl _ _).alloc (Nat.le_refl _) _
  have J5 := J4.on hb5
  have hX5 := hX4.of_block (hb5.block _ hX4.lt)
  have hZ5 := hZ4.on hb5
  have k0 : W5.cell? ⟨w4.heap.size, 0, none⟩ = some (.int .i64 n) := by rw [hW5]; simp
  have k1 : W5.cell? ⟨w4.heap.size, 1, none⟩ = some (.int .i64 10) := by rw [hW5]; simp
  have k2 : W5.cell? ⟨w4.heap.size, 2, none⟩ = some (.slice Z 10 cz) := by rw [hW5]; simp
  have hsz5 : W5.heap.size = w4.heap.size + 1 := by rw [hW5]; simp
  have hlt5 : w4.heap.size < W5.heap.size := by omega
  have HW5 := Lib.hid hW5
  clear hW5 J4 hX4 hZ4 hb5 hsz5
  go_upto_region 7 with fail
  rw [← HW5.out]
  clear HW5
  have hd := (Below.refl W5.heap.size W5).drew
  have J6 := J5.on hd
  refine wp_region_takes 4 [0, 1, 2] [3] (fun w' => w'.cell? ⟨w4.heap.size, 0, none⟩ = some (.int .i64 n) ∧ w'.cell? ⟨w4.heap.size, 1, none⟩ = some (.int .i64 10) ∧ w'.cell? ⟨w4.heap.size, 2, none⟩ = some (.slice Z 10 cz)) (by kernel_rfl) (by kernel_rfl) ⟨k0, k1, k2⟩ ?_
  refine wpTakes_cons (v := ?_) _ at0 rfl ?_ ?_ ?_
  rotate_left 1
  · rintro W ⟨x0, x1, x2⟩
    go_simp
    rfl
  · exact fun _ _ _ h => h
  simp only [Act.put, List.setIfInBounds_toArray, List.set_cons_zero, List.set_cons_succ]
  refine wpTakes_cons (v := ?_) _ at1 rfl ?_ ?_ ?_
  rotate_left 1
  · rintro W ⟨x0, x1, x2⟩
    go_simp
    rfl
  · exact fun _ _ _ h => h
  simp only [Act.put, List.setIfInBounds_toArray, List.set_cons_zero, List.set_cons_succ]
  refine wpTakes_cons (v := ?_) _ at2 rfl ?_ ?_ ?_
  rotate_left 1
  · rintro W ⟨x0, x1, x2⟩
    go_simp
    rfl
  · exact fun _ _ _ h => h
  simp only [Act.put, List.setIfInBounds_toArray, List.set_cons_zero, List.set_cons_succ]
  refine wpTakes_nil (wpCalls_cons _ at3 rfl fun K hK => ?_)
  go_simp
  go_at_call 47
  refine (HL.out _ J6).mono ?_
  rintro e w6 ⟨g, rfl, hgl, hS6, hb6, J7⟩
  have hb7 := hd.trans (hb6.mono hd.size)
  have hX7 := hX5.of_block (hb7.block _ hX5.lt)
  have hZ7 := hZ5.on hb7
  refine hK.out _ _ ⟨(hb6.cell (p := ⟨w4.heap.size, 0, none⟩) hlt5).trans k0, (hb6.cell (p := ⟨w4.heap.size, 1, none⟩) hlt5).trans k1, (hb6.cell (p := ⟨w4.heap.size, 2, none⟩) hlt5).trans k2⟩ (wpCalls_nil ?_)
  have HC7 := Lib.hid (HCm.out w6 x Z cz base xs g hxl hbl hgl hX7 hZ7 hS6)
  clear hK J5 J6 hX5 hZ5 k0 k1 k2 HL hb6 hb7 hd hX7 hZ7 HCm hS6
  simp only [List.drop_succ_cons, List.drop_zero]
  obtain ⟨r0, r1, r2, r3, r4⟩ := fiveC J7.res
  have f0 := J7.res.frozen 0
  have f1 := J7.res.frozen 1
  have f2 := J7.res.frozen 2
  have f3 := J7.res.frozen 3
  have f4 := J7.res.frozen 4
  go_wp2
  have h7 := below5 J7.old (Nat.le_refl _) (.slice (some ⟨x, 0, none⟩) n n) (.int .i64 n) (.int .i64 10) (.slice Z 10 cz) (.slice (some ⟨g, 0, none⟩) m m)
  have hC2 := HC7.out (.slice (some ⟨x, 0, none⟩) n n) (.int .i64 n) (.int .i64 10) (.slice Z 10 cz) (.slice (some ⟨g, 0, none⟩) m m)
  obtain ⟨s0, s1, s2, s3, s4⟩ := fiveC (set5 J7.res (.slice (some ⟨x, 0, none⟩) n n) (.int .i64 n) (.int .i64 10) (.slice Z 10 cz) (.slice (some ⟨g, 0, none⟩) m m))
  exact bodyPost_ret (v := .tuple #[.agg #[.slice (some ⟨x, 0, none⟩) n n, .int .i64 n, .int .i64 10, .slice Z 10 cz, .slice (some ⟨g, 0, none⟩) m m], .bool true]) (by simp [results, Tryz.results19, go_sem, s0, s1, s2, s3, s4]) rfl ⟨_, Z, _, n, cz, m, rfl, Nat.le_refl _, hcz, hC2, h7⟩

end Go.Proofs.YtoejenejleocdabGreatDoor

/- 'combs': of one list comb answers as told. -/
namespace Go.Proofs.YtoejenejleocdabGreatDoor
open Go.RowKit
attribute [local irreducible] Bt.pop Bt.popF

section
variable {w0 : World} {B : Nat} {E L S : Option Addr} {cE cL cS N M : Nat} {l : List Int} {W : World}
end

end Go.Proofs.YtoejenejleocdabGreatDoor
