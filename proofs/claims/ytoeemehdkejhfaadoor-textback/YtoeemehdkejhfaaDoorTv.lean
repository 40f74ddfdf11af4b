/- That text answers at all (the law's own question); words joined. -/
import Derived.Test.YtoeemehdkejhfaaDoorTt
namespace Go.Proofs.YtoeemehdkejhfaaDoor
open Go.RowKit Tx

theorem lines_reads : linesOf [98, 32, 97, 10, 98] = [[[98], [97]], [[98]]] := by decide
theorem err_reads : errB [98, 32, 97, 10, 98] = 0 := by
  unfold errB
  rw [lines_reads]; decide
theorem rise_reads : ([[97], [98]] : List Wd).Pairwise (· < ·) := by decide
theorem bw_reads : bw [[[98], [97]], [[98]]] = [[97], [98]] := by
  refine rising_eq (bw_rising _) rise_reads fun x => ?_
  rw [mem_bw]
  simp
  constructor
  · rintro ((h | h) | h) <;> simp [h]
  · rintro (h | h) <;> simp [h]
theorem bt_reads : bt [[[98], [97]], [[98]]] = [3, 2, 1, 3, 1, 0] := by
  have h0 : findIn ([[97], [98]] : List Wd) [97] = some 0 := findIn_at rise_reads (k := 0) (by decide)
  have h1 : findIn ([[97], [98]] : List Wd) [98] = some 1 := findIn_at rise_reads (k := 1) (by decide)
  unfold bt
  rw [bw_reads]
  simp [toks, nums, numB, h0, h1]

theorem read_reads (m : Int) (w : World) (hm : w.cell? ⟨0, 0, none⟩ = some (.int .i64 m)) :
    Calls Tryd.prog 5 #[.string ⟨#[98, 32, 97, 10, 98]⟩] w fun e w' => ∃ A c b o c2, e = .returned (.tuple #[bookV A 2 c (some ⟨b, o, none⟩) 6 c2, .int .i64 0]) ∧ b < w'.heap.size ∧ w'.cell? ⟨b, o, none⟩ = some (.int .i64 3) ∧ w'.cell? ⟨b, o + 2, none⟩ = some (.int .i64 1) ∧ Below w.heap.size w w' := by
  refine (read_any [98, 32, 97, 10, 98] m w hm).mono ?_
  rintro e w' (⟨_, A, n, c, A2, n2, c2, rfl, hB, hb⟩ | ⟨h, _⟩)
  · rw [lines_reads, bw_reads, bt_reads] at hB
    obtain rfl : n = 2 := hB.wlen
    obtain rfl : n2 = 6 := hB.tlen
    obtain ⟨b, o, rfl, hbb, hc⟩ := hB.text (by decide)
    exact ⟨A, c, b, o, c2, rfl, hbb, hc 0 (by decide), hc 2 (by decide), hb⟩
  · exact absurd err_reads h

set_option maxHeartbeats 1000000 in
theorem readsK_any (m : Int) (w : World) (hm : w.cell? ⟨0, 0, none⟩ = some (.int .i64 m)) :
    Calls Tryd.prog 14 #[] w fun e w' => e = .returned (.bool true) ∧ Below w.heap.size w w' := by
  have H := Lib.hid (read_reads m w hm)
  clear hm
  go_enter Tryd.func14, Tryd.ntmps14
  go_wp2_with fail
  with_reducible refine H.out.mono ?_
  clear H
  rintro e w1 ⟨A, c, b, o, c2, rfl, hbb, h0, h2, hb⟩
  have k0 : ∀ O, (w1.alloc O).cell? ⟨b, o, none⟩ = some (.int .i64 3) := fun O => by rw [World.cell?_alloc_lt _ _ _ hbb]; exact h0
  have k2 : ∀ O, (w1.alloc O).cell? ⟨b, o + 2, none⟩ = some (.int .i64 1) := fun O => by rw [World.cell?_alloc_lt _ _ _ hbb]; exact h2
  go_wp2
  go_ret
  exact ⟨rfl, hb.alloc hb.size _⟩

/-- words put together, a space between each two -/
theorem join_le : ∀ (ws : List Wd), (∀ w ∈ ws, w.length ≤ 8) → (Lib.join ws [32]).length ≤ 9 * ws.length
  | [], _ => by simp [Lib.join]
  | [x], h => by have := h x (by simp); simp [Lib.join]; omega
  | x :: y :: r, h => by
    have ih := join_le (y :: r) (fun w hw => h w (by simp at hw ⊢; exact .inr hw))
    have h1 := h x (by simp)
    unfold Lib.join at ih ⊢
    rw [show List.intercalate [32] (x :: y :: r) = x ++ [32] ++ List.intercalate [32] (y :: r) from by simp [List.intercalate]]
    simp only [List.length_append, List.length_cons, List.length_nil] at ih ⊢
    omega
theorem join_any (ws : List Wd) (hf : ws.all isWord = true) (A : Option Addr) (n c : Nat) (w : World) (hA : SRow w w.heap.size A ws) (hn : n = ws.length) (hc : n ≤ c) (hb : n ≤ 4294967296) :
    Calls Tryd.prog 15 #[.slice A n c, .string ⟨#[32]⟩] w fun e w' => e = .returned (sv (Lib.join ws [32])) ∧ Below w.heap.size w w' := by
  by_cases h0 : n = 0
  · subst h0
    obtain rfl : ws = [] := List.eq_nil_of_length_eq_zero hn.symm
    refine (Tryd.strings_Join_none A c ⟨#[32]⟩ w).mono ?_
    rintro e w' ⟨rfl, rfl⟩
    exact ⟨rfl, Below.refl _ _⟩
  · obtain ⟨b, o, rfl, hbb, hcell⟩ := hA (by omega)
    subst hn
    have hmap : (ws.map fun x => (⟨x.toArray⟩ : ByteArray)).map (·.data.toList) = ws := by
      rw [List.map_map]
      conv => rhs; rw [← List.map_id ws]
      exact List.map_congr_left fun x _ => by simp
    have hlen := join_le ws (fun x hx => by
      have := (List.all_eq_true.1 hf) x hx
      simp only [isWord, Bool.and_eq_true, decide_eq_true_eq] at this
      exact this.1.2)
    have h := Tryd.strings_Join b o c (ws.map fun x => (⟨x.toArray⟩ : ByteArray)) ⟨#[32]⟩ w (fun j x hx => by
      rw [List.getElem?_map, Option.map_eq_some_iff] at hx
      obtain ⟨y, hy, rfl⟩ := hx
      have hj := (List.getElem?_eq_some_iff.1 hy).1
      have := hcell j hj
      rw [this]
      simp [hy]) hbb (by rw [List.length_map]; omega) (by rw [List.length_map]; exact hc) (by rw [hmap]; exact Nat.le_trans hlen (by omega))
    rw [hmap, List.length_map] at h
    exact h

end Go.Proofs.YtoeemehdkejhfaaDoor
