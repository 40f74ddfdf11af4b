/- Kinds of a wave that Make has made. -/
import Derived.Test.YtgnakccbkglfpaaWk
namespace Go.Proofs.Ytgnakccbkglfpaa
open Go.RowKit
attribute [local irreducible] Bt.pop Bt.popF

theorem Rep.top (l : List Nat) (d : Nat) (fr tu : Int) (hf : ∀ n ∈ l, n < 2 ^ d) (h1 : 1 ≤ d) (f1 : -9223372036854775808 ≤ fr) (f2 : fr ≤ 9223372036854775807) (t1 : -9223372036854775808 ≤ tu) (t2 : tu ≤ 9223372036854775807) : Rep l d 0 (Wv.cl l.length fr) (Wv.cl l.length tu) fr tu := by
  have hc : ∀ x : Int, Wv.cnt d 0 (l.take (Wv.cl l.length x)) = Wv.cl l.length x := fun x => by
    rw [Wv.cnt_whole d _ (fun n hn => hf n (List.mem_of_mem_take hn)), List.length_take]
    have := Wv.cl_le l.length x; omega
  refine ⟨?_, ?_, ?_, fun h => by omega⟩
  · rw [hc, Wv.st_zero, w64 _ (by omega) (by omega)]; unfold near Wv.cl; omega
  · rw [hc, Wv.st_zero, w64 _ (by omega) (by omega)]; unfold near Wv.cl; omega
  · intro h; rw [hc, hc]; unfold Wv.cl; omega

/-- the block in which a function keeps a wave -/
structure WB (w : World) (N : Nat) (A : Option Addr) (d c : Nat) (l : List Nat) (W : World) : Prop where
  c0 : W.cell? ⟨w.heap.size, 0, none⟩ = some (.int .i64 N)
  c1 : W.cell? ⟨w.heap.size, 1, none⟩ = some (.int .i64 d)
  c2 : W.cell? ⟨w.heap.size, 2, none⟩ = some (.slice A d c)
  wave : Wave W A d l
  lt : w.heap.size < W.heap.size
  old : Below w.heap.size w W
theorem WB.on {w : World} {N : Nat} {A : Option Addr} {d c : Nat} {l : List Nat} {W W' : World} (h : WB w N A d c l W) (hb : Below W.heap.size W W') : WB w N A d c l W' :=
  ⟨(hb.cell (p := ⟨w.heap.size, 0, none⟩) h.lt).trans h.c0, (hb.cell (p := ⟨w.heap.size, 1, none⟩) h.lt).trans h.c1, (hb.cell (p := ⟨w.heap.size, 2, none⟩) h.lt).trans h.c2, h.wave.on hb, Nat.lt_of_lt_of_le h.lt hb.size, h.old.trans (hb.mono h.old.size)⟩
theorem WB.start {w : World} {A : Option Addr} {d : Nat} {l : List Nat} (h : Wave w A d l) (N c : Nat) (t : TypeId) : WB w N A d c l (w.alloc (.cells #[.int .i64 N, .int .i64 d, .slice A d c] t)) :=
  ⟨by simp, by simp, by simp, h.on ((Below.refl _ _).alloc (Nat.le_refl _) _), by simp, (Below.refl _ _).alloc (Nat.le_refl _) _⟩

set_option maxHeartbeats 2000000 in
theorem kinds_wave {w : World} {A : Option Addr} {d : Nat} {l : List Nat} (h : Wave w A d l) (c : Nat) (hc : d ≤ c) (fr tu : Int) (f1 : -9223372036854775808 ≤ fr) (f2 : fr ≤ 9223372036854775807) (t1 : -9223372036854775808 ≤ tu) (t2 : tu ≤ 9223372036854775807) :
    Calls Try.prog 44 #[.agg #[.int .i64 l.length, .int .i64 d, .slice A d c], .int .i64 fr, .int .i64 tu] w fun e w' => ∃ v, e = .returned v ∧ OL w (up (Wv.kinds l (Wv.cl l.length fr) (Wv.cl l.length tu) (2 ^ d))) v w' := by
  have hB : WB w l.length A d c l _ := WB.start h l.length c 45
  have h16 := h.d16
  have HS := Lib.hid (fun W (hW : WB w l.length A d c l W) => (isShaped_wave hW.wave c).mono fun e w' hh => And.intro hh.1 (hW.on hh.2))
  have HW := Lib.hid (fun W (hW : WB w l.length A d c l W) => (whole_any l.length d A d c W).mono fun e w' hh => And.intro hh.1 (hW.on hh.2))
  have hst : Wv.st d (0 + 1) l = l.length := by rw [Wv.st_succ, Wv.st_zero, Wv.cnt_whole d l h.fit]; omega
  have HK := Lib.hid (fun W (hW : WB w l.length A d c l W) => show Calls Try.prog 79 #[.slice A d c, .agg #[.int .i64 0, .int .i64 l.length], .int .i64 fr, .int .i64 tu, .int .i64 0] W fun e w' => ∃ v, e = .returned v ∧ OL w (up (Wv.kinds l (Wv.cl l.length fr) (Wv.cl l.length tu) (2 ^ d))) v w' ∧ WB w l.length A d c l w' from by
    have := kinds_all l (Wv.cl l.length fr) (Wv.cl l.length tu) h.small d 0 (by omega) (by rw [Nat.add_zero]; exact h.fit) 0 A c fr tu W (by omega) hc hW.wave.lv (Rep.top l d fr tu h.fit h.d1 f1 f2 t1 t2)
    rw [hst, Wv.ks_kinds] at this
    exact this.mono fun e w' ⟨v, h1, h2⟩ => ⟨v, h1, h2.since hW.old, hW.on h2.old⟩)
  clear h hst
  generalize up (Wv.kinds l (Wv.cl l.length fr) (Wv.cl l.length tu) (2 ^ d)) = L at *
  go_enter Try.func44, Try.ntmps44
  go_wp2_with fail
  with_reducible refine (HS.out _ hB).mono ?_
  rintro e w1 ⟨rfl, B1⟩
  clear hB HS
  go_upto_region 3 with fail
  have B2 := B1.on (Below.refl _ _).drew
  refine wp_region_takes 7 [0, 1, 2, 4, 5] [3, 6] (fun w' => w'.cell? ⟨w.heap.size, 0, none⟩ = some (.int .i64 l.length) ∧ w'.cell? ⟨w.heap.size, 1, none⟩ = some (.int .i64 d) ∧ w'.cell? ⟨w.heap.size, 2, none⟩ = some (.slice A d c)) (by kernel_rfl) (by kernel_rfl) ⟨B1.c0, B1.c1, B1.c2⟩ ?_
  refine wpTakes_cons (v := ?_) _ at0 rfl ?_ ?_ ?_
  rotate_left 1
  · rintro W ⟨x0, x1, x2⟩
    go_simp
    rfl
  · exact fun _ _ _ h => h
  simp only [Act.put, List.setIfInBounds_toArray, List.set_cons_zero, List.set_cons_succ]
  refine wpTakes_cons (v := ?_) _ at1 rfl ?_ ?_ ?_
  rotate_left 1
  · rintro W ⟨x0, x1, x2⟩
    go_simp
    rfl
  · exact fun _ _ _ h => h
  simp only [Act.put, List.setIfInBounds_toArray, List.set_cons_zero, List.set_cons_succ]
  refine wpTakes_cons (v := ?_) _ at2 rfl ?_ ?_ ?_
  rotate_left 1
  · rintro W ⟨x0, x1, x2⟩
    go_simp
    rfl
  · exact fun _ _ _ h => h
  simp only [Act.put, List.setIfInBounds_toArray, List.set_cons_zero, List.set_cons_succ]
  refine wpTakes_cons (v := ?_) _ at4 rfl ?_ ?_ ?_
  rotate_left 1
  · rintro W ⟨x0, x1, x2⟩
    go_simp
    rfl
  · exact fun _ _ _ h => h
  simp only [Act.put, List.setIfInBounds_toArray, List.set_cons_zero, List.set_cons_succ]
  refine wpTakes_cons (v := ?_) _ at5 rfl ?_ ?_ ?_
  rotate_left 1
  · rintro W ⟨x0, x1, x2⟩
    go_simp
    rfl
  · exact fun _ _ _ h => h
  simp only [Act.put, List.setIfInBounds_toArray, List.set_cons_zero, List.set_cons_succ]
  refine wpTakes_nil (wpCalls_cons _ at3 rfl fun K hK => ?_)
  go_simp
  go_at_call 75
  refine (HW.out _ B2).mono ?_
  rintro e w3 ⟨rfl, B3⟩
  refine hK.out _ _ ⟨B3.c0, B3.c1, B3.c2⟩ ?_
  clear hK
  refine wpCalls_cons _ at6 rfl fun K hK => ?_
  go_simp
  go_at_call 79
  refine (HK.out _ B3).mono ?_
  rintro e w4 ⟨v, rfl, O4, B4⟩
  refine hK.out _ _ ⟨B4.c0, B4.c1, B4.c2⟩ (wpCalls_nil ?_)
  clear hK
  simp only [List.drop_succ_cons, List.drop_zero]
  obtain ⟨A9, c9, rfl, _⟩ := own_slice O4.own
  go_wp2
  go_ret
  exact ⟨_, rfl, O4⟩

end Go.Proofs.Ytgnakccbkglfpaa
