import Derived.Test.YtoejenejleocdabGreatDoorUe
import Derived.Test.YtoejenejleocdabGreatDoorJw
import Derived.Test.YtoejenejleocdabGreatDoorJj
import Derived.Test.YtoejenejleocdabGreatDoorSh2
/- The document's own answer for texts: numberOf, SameBook. -/
namespace Go.Proofs.YtoejenejleocdabGreatDoor
open Go.RowKit Tx
attribute [local irreducible] Bt.pop Bt.popF

theorem bytes_no {a b : Wd} (h : a ≠ b) : (a == b) = false := beq_eq_false_iff_ne.2 h
theorem bytes_yes {a b : Wd} (h : a = b) : (a == b) = true := beq_iff_eq.2 h
/-- the number of a word, or of a line's end; -1: there is none -/
def nofB (ws : List Wd) (q : Wd) : Int := if q = [10] then 1 else match findIn ws q with
  | some k => ((k + 2 : Nat) : Int)
  | none => -1

set_option maxRecDepth 100000 in
set_option maxHeartbeats 1000000 in
theorem numberOf_any (ws : List Wd) (q : Wd) (A : Option Addr) (n c : Nat) (A2 : Option Addr) (n2 c2 : Nat) (w : World) (h : SRow w w.heap.size A ws) (hn : n = ws.length) (hb : n ≤ 1000000) (hr : ws.Pairwise (· < ·)) :
    Calls Tryz.prog 62 #[.agg #[.slice A n c, .slice A2 n2 c2], sv q] w fun e w' => e = .returned (.int .i64 (nofB ws q)) ∧ Below w.heap.size w w' := by
  have HLn := Lib.hid hn
  clear hn
  have hbl := (Below.refl _ w).alloc (Nat.le_refl _) (.cells #[.slice A n c, .slice A2 n2 c2] 43)
  by_cases hq : q = [10]
  · subst hq
    have e : nofB ws [10] = 1 := rfl
    rw [e]
    clear h
    go_enter Tryz.func62, Tryz.ntmps62
    go_wp2
    go_ret
    exact ⟨rfl, hbl⟩
  · have hz : (q == [10]) = false := bytes_no hq
    have HR : Hid (∀ i, i < n → ∃ b o, A = some ⟨b, o, none⟩ ∧ b < w.heap.size ∧ w.cell? ⟨b, o + i, none⟩ = some (sv (ws.getD i []))) := Lib.hid fun i hi => by
      obtain ⟨b, o, e, hlt, hcc⟩ := h (by have := HLn.out; omega)
      exact ⟨b, o, e, hlt, hcc i (by have := HLn.out; omega)⟩
    have HF : Hid (∀ k, k < n → ws.getD k [] = q → nofB ws q = (k : Int) + 2) := Lib.hid fun k hk e => by
      unfold nofB
      rw [if_neg hq, (find_one hr q k (by have := HLn.out; omega)).1 e]
      simp
    have HN : Hid ((∀ k, k < n → ws.getD k [] ≠ q) → nofB ws q = -1) := Lib.hid fun hne => by
      unfold nofB
      rw [if_neg hq, findIn_not (fun hm => by
        obtain ⟨k, hk, he⟩ := List.mem_iff_getElem.1 hm
        exact hne k (by have := HLn.out; omega) (by rw [← he]; simp [hk]))]
    clear h HLn hr hq
    generalize nofB ws q = r at *
    go_enter Tryz.func62, Tryz.ntmps62
    go_wp2
    go_loop [12] (fun t => ∃ k : Nat, k ≤ n ∧ t = .int .i64 k ∧ ∀ j, j < k → ws.getD j [] ≠ q) (fun t => n - (intOf t).toNat)
    case atStart => exact ⟨0, Nat.zero_le _, rfl, fun j hj => absurd hj (by omega)⟩
    case round =>
      obtain ⟨k, hk, rfl, hinv⟩ := hrel
      have Hinv := Lib.hid hinv
      clear hinv
      by_cases hlt : k < n
      · have hlz : (k : Int) < (n : Int) := by omega
        obtain ⟨b, o, rfl, hblt, d0⟩ := HR.out k hlt
        have hw2 : IntKind.i64.wrap ((k : Int) + 2) = (k : Int) + 2 := w64 _ (by omega) (by omega)
        by_cases he : ws.getD k [] = q
        · have hre := HF.out k hlt he
          have hbe := bytes_yes he
          subst hre
          generalize ws.getD k [] = x at *
          clear he HR HF HN Hinv
          go_wp2
          go_ret
          exact ⟨rfl, hbl⟩
        · have hbe := bytes_no he
          have He := Lib.hid he
          clear he
          generalize hx : ws.getD k [] = x at d0 hbe
          clear hx HR HF HN hw2
          go_wp2
          go_round
          case rel => exact ⟨k + 1, by omega, by go_num, fun j hj => by
            by_cases e : j = k
            · subst e; exact He.out
            · exact Hinv.out j (by omega)⟩
          case measure => simp [intOf]; omega
      · obtain rfl : k = n := by omega
        have hre := HN.out Hinv.out
        subst hre
        clear HR HF Hinv
        go_wp2
        go_ret
        exact ⟨rfl, hbl⟩

end Go.Proofs.YtoejenejleocdabGreatDoor

/- The document's own answer for texts: SameBook of two books that are alike. -/
namespace Go.Proofs.YtoejenejleocdabGreatDoor
open Go.RowKit Tx
attribute [local irreducible] Bt.pop Bt.popF

set_option maxRecDepth 100000 in
set_option maxHeartbeats 2000000 in
theorem sameBook_yes (ws : List Wd) (T : List Int) (A : Option Addr) (n c : Nat) (A2 : Option Addr) (n2 c2 : Nat) (B : Option Addr) (d : Nat) (B2 : Option Addr) (d2 : Nat) (w : World)
    (h1 : SRow w w.heap.size A ws) (h2 : SRow w w.heap.size B ws) (h3 : IRow w w.heap.size A2 T) (h4 : IRow w w.heap.size B2 T) (hn : n = ws.length) (hn2 : n2 = T.length) (hb : n ≤ 1000000) (hb2 : n2 ≤ 1000000) :
    Calls Tryz.prog 34 #[.agg #[.slice A n c, .slice A2 n2 c2], .agg #[.slice B n d, .slice B2 n2 d2]] w fun e w' => e = .returned (.bool true) ∧ Below w.heap.size w w' := by
  obtain ⟨W0, hW0⟩ : ∃ W0, W0 = (w.alloc (.cells #[.slice A n c, .slice A2 n2 c2] 43)).alloc (.cells #[.slice B n d, .slice B2 n2 d2] 43) := ⟨_, rfl⟩
  have hbl : Below w.heap.size w W0 := by rw [hW0]; exact ((Below.refl _ w).alloc (Nat.le_refl _) _).alloc (by simp) _
  have k0 : W0.cell? ⟨w.heap.size, 0, none⟩ = some (.slice A n c) := by rw [hW0]; simp
  have k1 : W0.cell? ⟨w.heap.size, 1, none⟩ = some (.slice A2 n2 c2) := by rw [hW0]; simp
  have k2 : W0.cell? ⟨w.heap.size + 1, 0, none⟩ = some (.slice B n d) := by rw [hW0]; simp
  have k3 : W0.cell? ⟨w.heap.size + 1, 1, none⟩ = some (.slice B2 n2 d2) := by rw [hW0]; simp
  have HR : Hid (∀ i, i < n → ∃ b o b' o', A = some ⟨b, o, none⟩ ∧ B = some ⟨b', o', none⟩ ∧ W0.cell? ⟨b, o + i, none⟩ = some (sv (ws.getD i [])) ∧ W0.cell? ⟨b', o' + i, none⟩ = some (sv (ws.getD i []))) := Lib.hid fun i hi => by
    obtain ⟨b, o, e, hlt, hcc⟩ := h1 (by omega)
    obtain ⟨b', o', e', hlt', hcc'⟩ := h2 (by omega)
    exact ⟨b, o, b', o', e, e', (hbl.cell (p := ⟨b, o + i, none⟩) hlt).trans (hcc i (by omega)), (hbl.cell (p := ⟨b', o' + i, none⟩) hlt').trans (hcc' i (by omega))⟩
  have HS : Hid (∀ k, Calls Tryz.prog 38 #[.slice A2 n2 c2, .slice B2 n2 d2] (W0.drewN k) fun e w' => e = .returned (.bool true) ∧ Below w.heap.size w w') := Lib.hid fun k => by
    have hbk := hbl.trans ((Below.drewN (Below.refl W0.heap.size W0) k).mono hbl.size)
    have := sameInts_ints A2 B2 c2 d2 T T (W0.drewN k) (h3.on hbk) (h4.on hbk) (by omega)
    rw [← hn2] at this
    refine this.mono fun e w' ⟨e1, q, e2⟩ => ⟨by rw [e1]; simp, ?_⟩
    rw [e2]
    exact hbk.trans ((Below.drewN (Below.refl _ _) q).mono hbk.size)
  have HW0 := Lib.hid hW0
  clear hW0 h1 h2 h3 h4 hn hn2
  go_enter Tryz.func34, Tryz.ntmps34
  go_upto_region 3 with fail
  rw [← HW0.out]
  clear HW0
  go_wp2
  go_loopw [16] (fun s W => ∃ i d : Nat, s = .int .i64 i ∧ i ≤ n ∧ W = W0.drewN d) (fun s _ => n - (intOf s).toNat)
  case atStart => exact ⟨0, 0, rfl, by omega, rfl⟩
  case round =>
    obtain ⟨i, dd, rfl, hi, rfl⟩ := hrel
    by_cases hlt : i < n
    · have hlz : (i : Int) < (n : Int) := by omega
      obtain ⟨b, o, b', o', rfl, rfl, d0, d1⟩ := HR.out i hlt
      generalize ws.getD i [] = x at *
      have hxx : (x == x) = true := by simp
      clear HR HS
      go_wp2_with fail
      go_quiet (fail)
      go_wp2_with fail
      go_roundw
      case rel => exact ⟨i + 1, _, by go_num, by omega, rfl⟩
      case measure => simp [intOf]; omega
    · obtain rfl : i = n := by omega
      have HSi := Lib.hid (HS.out dd)
      clear HR HS
      go_wp2_with fail
      with_reducible refine HSi.out.mono ?_
      rintro e w2 ⟨rfl, hb2⟩
      clear HSi
      go_wp2
      go_ret
      exact ⟨rfl, hb2⟩

end Go.Proofs.YtoejenejleocdabGreatDoor

/- Plain mathematics: what stands between single spaces; the pieces that are not empty are the words. No program is named here. -/
namespace Go.Proofs.YtoejenejleocdabGreatDoor
namespace Tx
/-- what stands between spaces, empty pieces too -/
def ss : Wd → List Wd
  | [] => [[]]
  | c :: r => if c = 32 then [] :: ss r else match ss r with
    | [] => [[c]]
    | x :: t => (c :: x) :: t
theorem ss_ne (l : Wd) : ss l ≠ [] := by
  cases l with
  | nil => simp [ss]
  | cons c r =>
    simp only [ss]
    split
    · simp
    · split <;> simp
theorem ss_length : ∀ l : Wd, (ss l).length ≤ l.length + 1
  | [] => by simp [ss]
  | c :: r => by
    have ih := ss_length r
    simp only [ss]
    split
    · simp; omega
    · split
      · simp
      · next x t h => rw [h] at ih; simp at ih ⊢; omega
theorem splitK_ss : ∀ (k : Nat) (l : Wd), Lib.count l [32] = k → Lib.splitK [32] 0 k l = ss l
  | k, [], hk => by
    rw [Lib.count_one] at hk
    simp at hk; subst hk; rfl
  | k, c :: r, hk => by
    by_cases hc : c = 32
    · subst hc
      rw [Lib.count_cons_eq] at hk
      obtain ⟨j, rfl⟩ : ∃ j, k = j + 1 := ⟨k - 1, by omega⟩
      have hix : Lib.index (32 :: r) [32] = 0 := by rw [Lib.index]; simp [List.isPrefixOf]
      rw [Lib.splitK, hix, ss, if_pos rfl]
      simp
      exact splitK_ss j r (by omega)
    · rw [Lib.count_cons_ne _ _ _ hc] at hk
      have ih := splitK_ss k r hk
      have hp : ([32] : List UInt8).isPrefixOf (c :: r) = false := by simp [List.isPrefixOf, Ne.symm hc]
      have hix : Lib.index (c :: r) [32] = if Lib.index r [32] == -1 then -1 else Lib.index r [32] + 1 := by rw [Lib.index, hp]; simp
      rw [ss, if_neg hc, ← ih]
      cases k with
      | zero => rfl
      | succ k =>
        by_cases hm : Lib.index r [32] = -1
        · rw [Lib.splitK, hix, Lib.splitK, hm]; simp
        · have hge := Lib.index_ge r [32]
          obtain ⟨j, hj⟩ : ∃ j : Nat, Lib.index r [32] = j := ⟨(Lib.index r [32]).toNat, by omega⟩
          have hne : ¬ ((j : Int) = -1) := by omega
          have hne2 : ¬ ((j : Int) + 1 = -1) := by omega
          have e1 : ((j : Int) + 1).toNat = j + 1 := by omega
          rw [Lib.splitK, hix, Lib.splitK, hj]
          simp [hne, hne2, e1]
/-- the pieces that are not empty -/
def full (L : List Wd) : List Wd := L.filter fun x => x != []
theorem full_cons (x : Wd) (L : List Wd) : full (x :: L) = (if x = [] then full L else x :: full L) := by
  unfold full
  by_cases h : x = [] <;> simp [h]
theorem ss_fb : ∀ (l cur : Wd), fb cur l = match ss l with
    | [] => []
    | x :: t => full ((cur ++ x) :: t)
  | [], cur => by
    simp only [fb, ss, List.append_nil]
    rw [full_cons]
    by_cases h : cur = [] <;> simp [h, full]
  | c :: r, cur => by
    by_cases hc : c = 32
    · subst hc
      have ih := ss_fb r []
      simp only [fb, ss, if_true, List.append_nil]
      rw [full_cons]
      have e : full (ss r) = fb [] r := by
        rw [ih]
        cases h : ss r with
        | nil => exact absurd h (ss_ne r)
        | cons x t => simp
      rw [e]
    · have ih := ss_fb r (cur ++ [c])
      simp only [fb, ss, if_neg hc]
      rw [ih]
      cases h : ss r with
      | nil => exact absurd h (ss_ne r)
      | cons x t => simp
theorem ss_fields (l : Wd) : full (ss l) = fieldsB l := by
  have := ss_fb l []
  unfold fieldsB
  rw [this]
  cases h : ss l with
  | nil => exact absurd h (ss_ne l)
  | cons x t => simp
theorem full_take (L : List Wd) (j : Nat) (hj : j < L.length) : full (L.take (j + 1)) = if L.getD j [] = [] then full (L.take j) else full (L.take j) ++ [L.getD j []] := by
  unfold full
  rw [List.take_succ_eq_append_getElem hj, List.filter_append, show L.getD j [] = L[j] from by simp [hj]]
  by_cases h : L[j] = [] <;> simp [h]
/-- a field has no line's end in it where the line has none -/
theorem fb_ten : ∀ (l cur : Wd), (∀ c ∈ cur, c ≠ 10) → (∀ c ∈ l, c ≠ 10) → ∀ x ∈ fb cur l, ∀ c ∈ x, c ≠ 10
  | [], cur, h1, _, x, hx => by
    simp only [fb] at hx
    split at hx
    · simp at hx
    · simp at hx; subst hx; exact h1
  | c :: r, cur, h1, h2, x, hx => by
    have h2' : ∀ d ∈ r, d ≠ 10 := fun d hd => h2 d (by simp [hd])
    simp only [fb] at hx
    split at hx
    · split at hx
      · exact fb_ten r [] (by simp) h2' x hx
      · rcases List.mem_cons.1 hx with rfl | hx
        · exact h1
        · exact fb_ten r [] (by simp) h2' x hx
    · exact fb_ten r (cur ++ [c]) (fun d hd => by
        rcases List.mem_append.1 hd with h | h
        · exact h1 d h
        · simp at h; subst h; exact h2 d (by simp)) h2' x hx
theorem sb_ten : ∀ (l : Wd), ∀ x ∈ sb l, ∀ c ∈ x, c ≠ 10
  | [], x, hx => by simp [sb] at hx; subst hx; simp
  | c :: r, x, hx => by
    have ih := sb_ten r
    simp only [sb] at hx
    split at hx
    · rcases List.mem_cons.1 hx with rfl | hx
      · simp
      · exact ih x hx
    · next hc =>
      cases h : sb r with
      | nil => exact absurd h (sb_ne r)
      | cons y t =>
        rw [h] at hx ih
        rcases List.mem_cons.1 hx with rfl | hx
        · intro d hd
          rcases List.mem_cons.1 hd with rfl | hd
          · exact hc
          · exact ih y (by simp) d hd
        · exact ih x (by simp [hx])
/-- no word of a line is a line's end -/
theorem word_ten (l : Wd) {L : List Wd} (hL : L ∈ cutB l) {x : Wd} (hx : x ∈ L) : x ≠ [10] := by
  unfold cutB at hL
  obtain ⟨y, hy, rfl⟩ := List.mem_map.1 hL
  rintro rfl
  exact fb_ten y [] (by simp) (sb_ten l y hy) [10] hx 10 (by simp) rfl
end Tx
end Go.Proofs.YtoejenejleocdabGreatDoor

/- The document's own answer for texts: SignsOf. -/
namespace Go.Proofs.YtoejenejleocdabGreatDoor
open Go.RowKit Tx
attribute [local irreducible] Bt.pop Bt.popF

theorem split_space (l : Wd) (m : Int) (w : World) (hl : l.length ≤ 4294967000) (hm : w.cell? ⟨1, 0, none⟩ = some (.int .i64 m)) :
    Calls Tryz.prog 63 #[sv l, .string ⟨#[32]⟩] w fun e w' =>
      e = .returned (.slice (some ⟨w.heap.size, 0, none⟩) (ss l).length (ss l).length) ∧ w' = w.alloc (.cells ((ss l).map sv).toArray 9) := by
  have hK : (Lib.splitB ⟨#[32]⟩ 0 (Lib.countB ⟨l.toArray⟩ ⟨#[32]⟩) ⟨l.toArray⟩).map (·.data.toList) = ss l := by
    rw [Lib.splitB_data]
    exact splitK_ss _ l rfl
  have hlen : Lib.countB ⟨l.toArray⟩ ⟨#[32]⟩ + 1 = (ss l).length := by
    rw [← hK, List.length_map, Lib.splitB_all ⟨#[32]⟩ (by decide) 0 _ _ rfl]
  have hmap : (Lib.splitB ⟨#[32]⟩ 0 (Lib.countB ⟨l.toArray⟩ ⟨#[32]⟩) ⟨l.toArray⟩).map Value.string = (ss l).map sv := by
    rw [← hK, List.map_map]
    exact List.map_congr_left fun x _ => by simp [sv]
  have h := Tryz.strings_Split ⟨l.toArray⟩ ⟨#[32]⟩ m w (by simpa [ByteArray.size] using (by omega : l.length < 4294967281)) hm (by decide)
  rw [hlen, hmap] at h
  exact h

/-- the signs so far, in a row of the call's own; the pieces of a line in another block -/
structure NP (ws : List Wd) (ts : List (Option Wd)) (w1 : World) (g : Nat) (ps : List Wd) (v : Value) (W : World) : Prop where
  ni : NI ws ts w1 v W
  pc : ∀ j, j < ps.length → W.cell? ⟨g, j, none⟩ = some (sv (ps.getD j []))
  ne : some g ≠ v.ownBlock
  glt : g < W.heap.size
theorem NP.on {ws : List Wd} {ts : List (Option Wd)} {w1 : World} {g : Nat} {ps : List Wd} {v : Value} {W W' : World} (h : NP ws ts w1 g ps v W) (hb : Below W.heap.size W W') : NP ws ts w1 g ps v W' :=
  ⟨h.ni.on hb, fun j hj => (hb.cell (p := ⟨g, j, none⟩) h.glt).trans (h.pc j hj), h.ne, Nat.lt_of_lt_of_le h.glt hb.size⟩
theorem cell_block {W W' : World} {g : Nat} (h : W'.heap[g]? = W.heap[g]?) (j : Nat) : W'.cell? ⟨g, j, none⟩ = W.cell? ⟨g, j, none⟩ := by
  simp [World.cell?, h]
theorem NP.app {ws : List Wd} {ts : List (Option Wd)} {w1 : World} {g : Nat} {ps : List Wd} {v v' : Value} {W W' : World} (h : NP ws ts w1 g ps v W) (t : Option Wd) (x : Int) (hx : x = numB (findIn ws) t)
    (h2 : W'.ownsRow w1.heap.size 3 1 v' (ts.length + 1) (iv (nums (findIn ws) ts) ++ [.int .i64 x])) (h3 : W.grownBy W' v.ownBlock) (h4 : v'.ownBlock = v.ownBlock ∨ v'.ownBlock = some W.heap.size) : NP ws (ts ++ [t]) w1 g ps v' W' :=
  ⟨h.ni.app t x hx h2 h3, fun j hj => (cell_block (h3.block g h.glt h.ne) j).trans (h.pc j hj), fun he => by
    rcases h4 with h4 | h4
    · exact h.ne (by rw [he, h4])
    · rw [h4] at he
      injection he with he
      have := h.glt
      omega, Nat.lt_of_lt_of_le h.glt h3.size⟩

theorem sb_piece : ∀ (l : Wd) (i : Nat), ((sb l).getD i []).length ≤ l.length
  | [], i => by
    cases i <;> simp [sb]
  | c :: r, i => by
    have ih := sb_piece r
    simp only [sb]
    split
    · cases i with
      | zero => simp
      | succ i => have := ih i; simp at this ⊢; omega
    · cases h : sb r with
      | nil => exact absurd h (sb_ne r)
      | cons x t =>
        rw [h] at ih
        cases i with
        | zero => have := ih 0; simp at this ⊢; omega
        | succ i => have := ih (i + 1); simp at this ⊢; omega
theorem row_alloc (W : World) (L : List Wd) (j : Nat) (hj : j < L.length) : (W.alloc (.cells (L.map sv).toArray 9)).cell? ⟨W.heap.size, j, none⟩ = some (sv (L.getD j [])) := by
  rw [World.cell?_alloc_at _ _ _ _ (by simp)]
  simp [hj]
theorem all_full (p : Wd → Bool) (L : List Wd) (j : Nat) (hj : j < L.length) (h : (full (L.take j)).all p = true) (h2 : L.getD j [] = [] ∨ p (L.getD j []) = true) : (full (L.take (j + 1))).all p = true := by
  rw [full_take L j hj]
  split
  · exact h
  · rw [List.all_append, h]
    rcases h2 with h2 | h2
    · contradiction
    · rw [List.all_cons, h2]; rfl

set_option maxRecDepth 100000 in
set_option maxHeartbeats 4000000 in
theorem signsOf_any (ws : List Wd) (q : Wd) (A : Option Addr) (n c : Nat) (A2 : Option Addr) (n2 c2 : Nat) (w : World) (hg : GV w) (h : SRow w w.heap.size A ws) (hn : n = ws.length) (hb : n ≤ 1000000) (hr : ws.Pairwise (· < ·)) (hq : q.length ≤ 1048576) :
    Calls Tryz.prog 36 #[.agg #[.slice A n c, .slice A2 n2 c2], sv q] w (SgPost w (sgn ws q)) := by
  have hb0 := (Below.refl _ w).alloc (Nat.le_refl _) (.cells #[.slice A n c, .slice A2 n2 c2] 43)
  obtain ⟨m, hm⟩ := (hg.on hb0).ml
  have H1 := Lib.hid (split_any q m _ (by omega) hm)
  obtain ⟨w1, hw1⟩ : ∃ w1, w1 = (w.alloc (.cells #[.slice A n c, .slice A2 n2 c2] 43)).alloc (.cells ((sb q).map sv).toArray 9) := ⟨_, rfl⟩
  have hb1 : Below w.heap.size w w1 := by rw [hw1]; exact hb0.alloc (by simp) _
  have hbx : w1.cell? ⟨w.heap.size, 0, none⟩ = some (.slice A n c) ∧ w1.cell? ⟨w.heap.size, 1, none⟩ = some (.slice A2 n2 c2) := by rw [hw1]; exact ⟨by simp, by simp⟩
  have hlt1 : w.heap.size + 1 < w1.heap.size := by rw [hw1]; simp
  have HLn : Hid (∀ i, i < (sb q).length → w1.cell? ⟨w.heap.size + 1, i, none⟩ = some (sv ((sb q).getD i []))) := Lib.hid fun i hi => by
    rw [hw1]
    have := row_alloc (w.alloc (.cells #[.slice A n c, .slice A2 n2 c2] 43)) (sb q) i hi
    rwa [World.size_alloc] at this
  have HSp : Hid (∀ W i, Below w1.heap.size w1 W → i < (sb q).length → Calls Tryz.prog 63 #[sv ((sb q).getD i []), .string ⟨#[32]⟩] W fun e w' => e = .returned (.slice (some ⟨W.heap.size, 0, none⟩) (ss ((sb q).getD i [])).length (ss ((sb q).getD i [])).length) ∧ w' = W.alloc (.cells ((ss ((sb q).getD i [])).map sv).toArray 9)) := Lib.hid fun W i hW hi => by
    obtain ⟨m', hm'⟩ := (hg.on (hb1.trans (hW.mono hb1.size))).ml
    exact split_space _ m' W (by have := sb_piece q i; omega) hm'
  have HNo : Hid (∀ W x, Below w1.heap.size w1 W → Calls Tryz.prog 62 #[.agg #[.slice A n c, .slice A2 n2 c2], sv x] W fun e w' => e = .returned (.int .i64 (nofB ws x)) ∧ Below W.heap.size W w') := Lib.hid fun W x hW => numberOf_any ws x A n c A2 n2 c2 W (h.on (hb1.trans (hW.mono hb1.size))) hn hb hr
  have HC : Hid (∀ i, i < (sb q).length → (cutB q).getD i [] = full (ss ((sb q).getD i []))) := Lib.hid fun i hi => by
    unfold cutB
    rw [ss_fields, List.getD_eq_getElem?_getD, List.getElem?_map, List.getD_eq_getElem?_getD]
    simp [hi]
  have HCl : Hid ((cutB q).length = (sb q).length) := Lib.hid (by unfold cutB; simp)
  have HT := Lib.hid (toks_take (cutB q))
  have HI := Lib.hid (allIn_take (findIn ws) (cutB q))
  have hTk := toks_cut q
  have hSl := sb_length q
  have HW1 := Lib.hid hw1
  have Hbx := Lib.hid hbx
  have Hb1 := Lib.hid hb1
  have HX : Hid (∀ i x, i < (sb q).length → x ∈ full (ss ((sb q).getD i [])) → x ≠ [10] ∧ (findIn ws x = none → sgn ws q = none)) := Lib.hid fun i x hi hx => by
    have hmem : full (ss ((sb q).getD i [])) ∈ cutB q := by
      rw [← HC.out i hi]
      exact getD_mem _ [] i (by rw [HCl.out]; exact hi)
    refine ⟨word_ten q hmem hx, fun hf => ?_⟩
    unfold sgn
    rw [if_neg]
    intro hall
    unfold allIn at hall
    have h2 := List.all_eq_true.1 (List.all_eq_true.1 hall _ hmem) x hx
    rw [hf] at h2
    cases h2
  have HY : Hid (allIn (findIn ws) (cutB q) = true → sgn ws q = some (nums (findIn ws) (toks (cutB q)))) := Lib.hid fun hall => by unfold sgn; rw [if_pos hall]
  clear hg h hn hr hm hb0 hw1 hb1 hbx
  generalize hN : (sb q).length = N at *
  go_enter Tryz.func36, Tryz.ntmps36
  go_wp2_with fail
  with_reducible refine H1.out.mono ?_
  rintro e w1' ⟨rfl, hw1'⟩
  rw [← HW1.out] at hw1'
  have e1 : w1 = w1' := hw1'.symm
  clear hw1'
  subst e1
  clear H1 HW1
  rw [World.size_alloc]
  go_wp2
  go_loopw [6, 15] (fun s6 s15 wr => ∃ i : Nat, s15 = .int .i64 i ∧ i ≤ N ∧ Hid (allIn (findIn ws) ((cutB q).take i) = true) ∧ NI ws (toks ((cutB q).take i)) w1 s6 wr) (fun _ s _ => N - (intOf s).toNat)
  case atStart => exact ⟨0, rfl, by omega, Lib.hid (by simp [allIn]), ⟨World.ownsRow_nil _ _ _ _, Below.refl _ _⟩⟩
  case round =>
    obtain ⟨i, rfl, hi, Hin, J⟩ := hrel
    by_cases hlt : i < N
    · have hlz : (i : Int) < (N : Int) := by omega
      have d0 : wr.cell? ⟨w.heap.size + 1, i, none⟩ = some (sv ((sb q).getD i [])) := (J.old.cell (p := ⟨w.heap.size + 1, i, none⟩) hlt1).trans (HLn.out i hlt)
      have HT1 := Lib.hid (HT.out i (by rw [HCl.out]; exact hlt))
      have HI1 := Lib.hid (HI.out i (by rw [HCl.out]; exact hlt))
      have HC1 := Lib.hid (HC.out i hlt)
      have HSp1 := Lib.hid (fun W hW => HSp.out W i hW hlt)
      have HX1 := Lib.hid (fun x => HX.out i x hlt)
      have hT0 := Lib.hid (toks_take_le (cutB q) i)
      have hT1 := Lib.hid (toks_take_le (cutB q) (i + 1))
      have hps := ss_length ((sb q).getD i [])
      have hpl := sb_piece q i
      rw [HC1.out] at HT1 HI1
      generalize (sb q).getD i [] = line at *
      generalize hps' : ss line = ps at *
      clear hps'
      clear HT HI HC HSp HX HLn HC1
      have hT0' := hT0.out
      go_upto_if 21 with fail
      go_cut [6, 15] from 15 to 44 (fun s6 s15 wx => s15 = .int .i64 i ∧ NI ws (toks ((cutB q).take i) ++ (if i = 0 then [] else [none])) w1 s6 wx)
      case first =>
        by_cases h0 : i = 0
        · subst h0
          have hd : decide ((0 : Int) < ((0 : Nat) : Int)) = false := by simp
          go_wp2_with fail
          go_meet
          exact ⟨rfl, by simpa using J⟩
        · have hd : decide ((0 : Int) < (i : Int)) = true := by simp; omega
          have hmx : (toks ((cutB q).take i)).length + 1 ≤ maxLen := by unfold maxLen; omega
          have hsz := J.old.size
          have J1 := J.on ((Below.refl _ wr).alloc (Nat.le_refl _) (.cells #[.int .i64 1] 3))
          go_wp2_with (at_builtin; refine wpList_app1 _ rfl _ _ 22 rfl w1.heap.size 3 (.int .i64 0) 8 Tryz.underlying22 infoIntT rfl _ (toks ((cutB q).take i)).length (iv (nums (findIn ws) (toks ((cutB q).take i)))) rfl wr.heap.size (.int .i64 1) rfl J1.own (new1 _ _ _) (by simp) rfl hmx (by omega) (by simp; omega) ?_; intro v' w2 h2 h3 h4)
          go_meet
          refine ⟨rfl, ?_⟩
          rw [if_neg h0]
          exact J1.app none 1 rfl h2 h3
      case rest =>
        clear J d0
        obtain ⟨rfl, J⟩ := hcut
        have hlen1 : (toks ((cutB q).take i) ++ (if i = 0 then [] else [none])).length + (full ps).length ≤ 8589934592 := by
          have h1 := hT1.out
          rw [HT1.out] at h1
          simp only [List.length_append, List.length_map] at h1 ⊢
          omega
        generalize hTs : toks ((cutB q).take i) ++ (if i = 0 then [] else [none]) = ts at *
        have HTs := Lib.hid hTs
        clear hTs
        have HSp2 := Lib.hid (HSp1.out wc J.old)
        have P0 : NP ws (ts ++ (full (ps.take 0)).map some) w1 wc.heap.size ps _ (wc.alloc (.cells (ps.map sv).toArray 9)) := ⟨by simpa [full] using J.on ((Below.refl _ wc).alloc (Nat.le_refl _) _), fun j hj => row_alloc wc ps j hj, fun he => by have := J.own.lt _ he.symm; omega, by simp⟩
        clear HSp1 J hT1 hT0 hT0'
        go_wp2_with fail
        with_reducible refine HSp2.out.mono ?_
        rintro e w3 ⟨rfl, rfl⟩
        clear HSp2
        generalize wc.alloc (.cells (ps.map sv).toArray 9) = w3 at P0 ⊢
        generalize wc.heap.size = g at P0 ⊢
        go_wp2_with fail
        go_loopw [6, 28] (fun s6 s28 wx => ∃ j : Nat, s28 = .int .i64 j ∧ j ≤ ps.length ∧ Hid ((full (ps.take j)).all (fun x => (findIn ws x).isSome) = true) ∧ NP ws (ts ++ (full (ps.take j)).map some) w1 g ps s6 wx) (fun _ s _ => ps.length - (intOf s).toNat)
        case atStart => exact ⟨0, rfl, by omega, Lib.hid (by simp [full]), P0⟩
        case round =>
          clear P0
          obtain ⟨j, rfl, hj, Hj, J⟩ := hrel
          by_cases hjl : j < ps.length
          · have hjz : (j : Int) < (ps.length : Int) := by omega
            have d0 := J.pc j hjl
            have HFt := Lib.hid (full_take ps j hjl)
            have HAf := Lib.hid (all_full (fun x => (findIn ws x).isSome) ps j hjl Hj.out)
            have hfl : (full (ps.take j)).length ≤ (full ps).length := by
              have h1 : full (ps.take j) <+: full ps := List.IsPrefix.filter _ (List.take_prefix j ps)
              exact h1.length_le
            by_cases hx0 : ps.getD j [] = []
            · have hbe : (ps.getD j [] == ([] : Wd)) = true := bytes_yes hx0
              have HG := Lib.hid (HAf.out (.inl hx0))
              rw [if_pos hx0] at HFt
              generalize ps.getD j [] = x at d0 hbe
              clear HAf hx0
              go_wp2
              go_roundw
              case rel => exact ⟨j + 1, by go_num, by omega, HG, by rw [HFt.out]; exact J⟩
              case measure => simp [intOf]; omega
            · have hbe : (ps.getD j [] == ([] : Wd)) = false := bytes_no hx0
              rw [if_neg hx0] at HFt
              have hmem : ps.getD j [] ∈ full ps := by
                unfold full
                exact List.mem_filter.2 ⟨getD_mem ps [] j hjl, by simpa using hx0⟩
              obtain ⟨hx10, hxn⟩ := HX1.out _ hmem
              have HXn := Lib.hid hxn
              have HNo1 := Lib.hid (HNo.out wr (ps.getD j []) J.ni.old)
              have hlast : (full (ps.take j)).length + 1 ≤ (full ps).length := by
                have h1 : full (ps.take (j + 1)) <+: full ps := List.IsPrefix.filter _ (List.take_prefix (j + 1) ps)
                have h2 := h1.length_le
                rw [HFt.out] at h2
                simpa using h2
              have hk0 := (J.ni.old.cell (p := ⟨w.heap.size, 0, none⟩) (show w.heap.size < w1.heap.size by omega)).trans Hbx.out.1
              have hk1 := (J.ni.old.cell (p := ⟨w.heap.size, 1, none⟩) (show w.heap.size < w1.heap.size by omega)).trans Hbx.out.2
              cases hf : findIn ws (ps.getD j []) with
              | none =>
                have hno : nofB ws (ps.getD j []) = -1 := by unfold nofB; rw [if_neg hx10, hf]
                rw [hno] at HNo1
                have HN := Lib.hid (HXn.out hf)
                generalize ps.getD j [] = x at d0 hbe HNo1
                have hold := Hb1.out.trans (J.ni.old.mono Hb1.out.size)
                clear HAf hf hno HXn HFt
                go_wp2_with fail
                with_reducible refine HNo1.out.mono ?_
                rintro e w4 ⟨rfl, hb4⟩
                have hold2 := hold.trans (hb4.mono hold.size)
                clear HNo1 J
                go_wp2
                go_ret2
                rw [HN.out]
                exact ⟨rfl, hold2⟩
              | some k =>
                have hno : nofB ws (ps.getD j []) = ((k + 2 : Nat) : Int) := by unfold nofB; rw [if_neg hx10, hf]
                rw [hno] at HNo1
                have HG := Lib.hid (HAf.out (.inr (by rw [hf]; rfl)))
                have Hnm : Hid (((k + 2 : Nat) : Int) = numB (findIn ws) (some (ps.getD j []))) := Lib.hid (by show ((k + 2 : Nat) : Int) = (((findIn ws (ps.getD j [])).getD 0 + 2 : Nat) : Int); rw [hf]; rfl)
                generalize ps.getD j [] = x at d0 hbe HNo1 HFt Hnm
                clear HAf hf hno HXn
                go_wp2_with fail
                with_reducible refine HNo1.out.mono ?_
                rintro e w4 ⟨rfl, hb4⟩
                have J3 := J.on hb4
                clear HNo1 J hb4 hk0 hk1
                have hz7 : ¬ (((k + 2 : Nat) : Int) < 0) := by omega
                generalize ((k + 2 : Nat) : Int) = kk at *
                have hmx : (ts ++ (full (ps.take j)).map some).length + 1 ≤ maxLen := by rw [List.length_append, List.length_map]; unfold maxLen; omega
                have hby : ((ts ++ (full (ps.take j)).map some).length + 1) * 8 ≤ 140737488355328 := by rw [List.length_append, List.length_map]; omega
                have hsz := J3.ni.old.size
                have J4 := J3.on ((Below.refl _ w4).alloc (Nat.le_refl _) (.cells #[.int .i64 kk] 3))
                go_wp2_with (at_builtin; refine wpList_app1 _ rfl _ _ 22 rfl w1.heap.size 3 (.int .i64 0) 8 Tryz.underlying22 infoIntT rfl _ (ts ++ (full (ps.take j)).map some).length (iv (nums (findIn ws) (ts ++ (full (ps.take j)).map some))) rfl w4.heap.size (.int .i64 kk) rfl J4.ni.own (new1 _ _ _) (by simp) rfl hmx hby (by simp; omega) ?_; intro v' w2 h2 h3 h4)
                have J5 := J4.app (some x) kk Hnm.out h2 h3 h4
                rw [List.append_assoc, show (full (ps.take j)).map some ++ [some x] = (full (ps.take (j + 1))).map some by rw [HFt.out]; simp] at J5
                clear J3 J4 h2 h3 h4
                go_wp2
                go_roundw
                case rel => exact ⟨j + 1, by go_num, by omega, HG, J5⟩
                case measure => simp [intOf]; omega
          · obtain rfl : j = ps.length := by omega
            have J2 := J.ni
            rw [List.take_length] at J2
            have HG := Lib.hid (show allIn (findIn ws) ((cutB q).take (i + 1)) = true by rw [HI1.out, Hin.out]; have := Hj.out; rw [List.take_length] at this; rw [this]; rfl)
            have HTT := HT1
            clear J
            go_wp2
            go_roundw
            case rel => exact ⟨i + 1, by go_num, by omega, HG, by rw [HTT.out]; exact J2⟩
            case measure => simp [intOf]; omega
    · obtain rfl : i = N := by omega
      have HFu : Hid ((cutB q).take i = cutB q) := Lib.hid (by rw [← HCl.out, List.take_length])
      have HG := Lib.hid (show allIn (findIn ws) (cutB q) = true by have := Hin.out; rwa [HFu.out] at this)
      have hold := Hb1.out.trans (J.old.mono Hb1.out.size)
      go_wp2
      go_ret2
      rw [HFu.out] at J
      rw [HY.out HG.out]
      obtain ⟨X, cx, hv, hcx⟩ := own_slice J.own
      have hrow := (iv_row (hv ▸ J.own)).2
      have hln : (nums (findIn ws) (toks (cutB q))).length = (toks (cutB q)).length := by simp [nums]
      exact ⟨X, cx, by rw [hln, hv]; rfl, by rw [hln]; exact hcx, hrow, hold⟩

end Go.Proofs.YtoejenejleocdabGreatDoor

/- The document's own answer for texts: word. -/
namespace Go.Proofs.YtoejenejleocdabGreatDoor
open Go.RowKit Tx
attribute [local irreducible] Bt.pop Bt.popF

namespace Tx
def abc : Wd := [97, 98, 99, 100, 101, 102, 103, 104, 105, 106, 107, 108, 109, 110, 111, 112, 113, 114, 115, 116, 117, 118, 119, 120, 121, 122]
theorem abc_letter (c : UInt8) : abc.contains c = letter c := by
  have h : ∀ n : Fin 256, abc.contains (UInt8.ofNat n.val) = letter (UInt8.ofNat n.val) := by decide +kernel
  have := h ⟨c.toNat, c.toNat_lt⟩
  simpa using this
theorem dropWhile_nil {α : Type} (p : α → Bool) : ∀ l : List α, l.dropWhile p = [] ↔ l.all p = true
  | [] => by simp
  | a :: l => by
    rw [List.dropWhile_cons]
    by_cases h : p a = true
    · rw [if_pos h, dropWhile_nil p l]; simp [h]
    · rw [if_neg h]; simp [h]
theorem trim_letters (l : Wd) : (Lib.trimS l abc = []) ↔ l.all letter = true := by
  unfold Lib.trimS Lib.trimLeftS Lib.trimRightS
  have e : (fun x => abc.contains x) = letter := funext abc_letter
  rw [e, dropWhile_nil, List.all_reverse]
  constructor
  · intro h
    by_cases hr : l.reverse.dropWhile letter = []
    · rw [dropWhile_nil, List.all_reverse] at hr; exact hr
    · exfalso
      obtain ⟨a, t, hat⟩ := List.exists_cons_of_ne_nil hr
      have h1 : letter a = false := by
        have := List.head?_dropWhile_not letter l.reverse
        rw [hat] at this
        simpa using this
      rw [hat] at h
      simp [h1] at h
  · intro h
    have : l.reverse.dropWhile letter = [] := by rw [dropWhile_nil, List.all_reverse]; exact h
    rw [this]; rfl
end Tx

theorem trimA_any (l : Wd) (w : World) (hl : l.length ≤ 1048576) : Calls Tryz.prog 103 #[sv l, .string ⟨#[97, 98, 99, 100, 101, 102, 103, 104, 105, 106, 107, 108, 109, 110, 111, 112, 113, 114, 115, 116, 117, 118, 119, 120, 121, 122]⟩] w fun e w' => e = .returned (sv (Lib.trimS l abc)) ∧ Below w.heap.size w w' :=
  (Any.strings_Trim_laid Tryz.lays160 (by kernel_rfl) ⟨l.toArray⟩ ⟨#[97, 98, 99, 100, 101, 102, 103, 104, 105, 106, 107, 108, 109, 110, 111, 112, 113, 114, 115, 116, 117, 118, 119, 120, 121, 122]⟩ w (by simp [ByteArray.size]; omega) (by decide) (ascii_of_all (by decide))).mono fun e w' hh => ⟨hh.1, hh.2⟩

set_option maxHeartbeats 1000000 in
theorem word_any (l : Wd) (w : World) (hl : l.length ≤ 1048576) : Calls Tryz.prog 61 #[sv l] w fun e w' => e = .returned (.bool (isWord l)) ∧ Below w.heap.size w w' := by
  have HT := Lib.hid (trimA_any l w hl)
  by_cases h0 : 0 < l.length
  · by_cases h9 : l.length < 9
    · have z0 : (0 : Int) < (l.length : Int) := by omega
      have z9 : (l.length : Int) < 9 := by omega
      have Hw : Hid (isWord l = (Lib.trimS l abc == ([] : Wd))) := Lib.hid (by
        unfold isWord
        rw [decide_eq_true (show 1 ≤ l.length ∧ l.length ≤ 8 by omega), Bool.true_and, Bool.eq_iff_iff, beq_iff_eq]
        exact (trim_letters l).symm)
      rw [Hw.out]
      clear Hw
      generalize Lib.trimS l abc = x at *
      go_enter Tryz.func61, Tryz.ntmps61
      go_wp2_with fail
      with_reducible refine HT.out.mono ?_
      rintro e w1 ⟨rfl, hb1⟩
      clear HT
      go_wp2
      go_ret
      exact ⟨by first | rfl | simp, hb1⟩
    · have z0 : (0 : Int) < (l.length : Int) := by omega
      have z9 : ¬ ((l.length : Int) < 9) := by omega
      have hw : isWord l = false := by unfold isWord; rw [decide_eq_false (by omega)]; rfl
      rw [hw]
      clear HT
      go_enter Tryz.func61, Tryz.ntmps61
      go_wp2
      go_ret
      exact ⟨by first | rfl | simp, Below.refl _ _⟩
  · have z0 : ¬ ((0 : Int) < (l.length : Int)) := by omega
    have hw : isWord l = false := by unfold isWord; rw [decide_eq_false (by omega)]; rfl
    rw [hw]
    clear HT
    go_enter Tryz.func61, Tryz.ntmps61
    go_wp2
    go_ret
    exact ⟨by first | rfl | simp, Below.refl _ _⟩

end Go.Proofs.YtoejenejleocdabGreatDoor
