import Derived.Test.YtoejenejleocdabGreatDoorJc
/- shareOut: two lists of each, noughts and ones, the empty ones left out. -/
namespace Go.Proofs.YtoejenejleocdabGreatDoor
open Go.RowKit

theorem infoSl : (Tryz.prog.info? 22).map (fun i => (i.zero, i.size, i.bytes)) = some (some (.slice none 0 0), 1, 24) := by kernel_rfl

/-- two lists in the making, in unlike blocks -/
structure SI (V : World) (N O : List Nat) (v8 v9 : Value) (W : World) : Prop where
  n : OL V (up N) v8 W
  o : OL V (up O) v9 W
  ne : ∀ g, v8.ownBlock = some g → v9.ownBlock ≠ some g
section
variable {V : World} {N O : List Nat} {v8 v9 : Value} {W W' : World}
theorem SI.nil (V : World) : SI V [] [] (.slice none 0 0) (.slice none 0 0) V := ⟨OL.nil V V (Below.refl _ _), OL.nil V V (Below.refl _ _), fun g h => by simp [Value.ownBlock] at h⟩
theorem SI.on (h : SI V N O v8 v9 W) (hb : Below W.heap.size W W') : SI V N O v8 v9 W' := ⟨h.n.on hb, h.o.on hb, h.ne⟩
theorem none_or {a b : Option Nat} (h : ∀ g, a = some g → b ≠ some g) : a = none ∨ a ≠ b := by
  cases a with
  | none => exact .inl rfl
  | some g => exact .inr (fun e => h g rfl e.symm)
theorem SI.appO (h : SI V N O v8 v9 W) (x : Nat) {v' : Value} (h2 : W'.ownsRow V.heap.size 3 1 v' ((up O).length + 1) ((up O).map (Value.int .i64) ++ [.int .i64 x])) (hg : W.grownBy W' v9.ownBlock) (hv : v'.ownBlock = v9.ownBlock ∨ v'.ownBlock = some W.heap.size) : SI V N (O ++ [x]) v8 v' W' := by
  have ho := h.o.app (x : Int) h2 hg
  refine ⟨⟨h.n.own.kept hg (none_or h.ne), ho.old⟩, by rw [up_append]; exact ho, fun g hg8 => ?_⟩
  have hlt := (h.n.own.lt g hg8).2
  rcases hv with hv | hv
  · rw [hv]; exact h.ne g hg8
  · rw [hv]; intro e; injection e with e; omega
theorem SI.appN (h : SI V N O v8 v9 W) (x : Nat) {v' : Value} (h2 : W'.ownsRow V.heap.size 3 1 v' ((up N).length + 1) ((up N).map (Value.int .i64) ++ [.int .i64 x])) (hg : W.grownBy W' v8.ownBlock) (hv : v'.ownBlock = v8.ownBlock ∨ v'.ownBlock = some W.heap.size) : SI V (N ++ [x]) O v' v9 W' := by
  have hn := h.n.app (x : Int) h2 hg
  refine ⟨by rw [up_append]; exact hn, ⟨h.o.own.kept hg (none_or (fun g hg9 e => h.ne g e hg9)), hn.old⟩, fun g hg8 e9 => ?_⟩
  have hlt := (h.o.own.lt g e9).2
  rcases hv with hv | hv
  · rw [hv] at hg8; exact h.ne g hg8 e9
  · rw [hv] at hg8; injection hg8 with hg8; omega
end

/-- a row of the call's own that holds numbers -/
def ON (base : Nat) (L : List Nat) (v : Value) (W : World) : Prop := W.ownsRow base 3 1 v L.length ((up L).map (Value.int .i64))
theorem OL.on_ {V : World} {L : List Nat} {v : Value} {W : World} (h : OL V (up L) v W) : ON V.heap.size L v W := by
  have hown := h.own
  rw [up_len] at hown
  exact hown
/-- where such a list lies -/
theorem ON.lies {V : Nat} {L : List Nat} {A : Option Addr} {n c : Nat} {W : World} (h : ON V L (.slice A n c) W) : n = L.length ∧ (L.length = 0 ∨ ∃ g, A = some ⟨g, 0, none⟩ ∧ V ≤ g ∧ g < W.heap.size ∧ ∀ j, j < L.length → W.cell? ⟨g, 0 + j, none⟩ = some (.int .i64 ((L.getD j 0 : Nat) : Int))) := by
  have hown : W.ownsRow V 3 1 (.slice A n c) L.length ((up L).map (Value.int .i64)) := h
  have hn : n = L.length := by
    rcases hown.2 with ⟨e, h0⟩ | ⟨g, cap, cur, e, _⟩
    · injection e with _ e _; omega
    · injection e with _ e _
  refine ⟨hn, ?_⟩
  by_cases h0 : L.length = 0
  · exact .inl h0
  · right
    obtain ⟨g, cap, e, hb, hlt⟩ := hown.form (by omega)
    injection e with e1 e2 e3
    subst hn
    have hmap : (up L).map (Value.int .i64) = L.map (fun (x : Nat) => Value.int .i64 (x : Int)) := by unfold up; rw [List.map_map]; rfl
    rw [hmap] at hown
    obtain ⟨_, hr⟩ := own_row (0 : Nat) hown
    obtain ⟨b, o, e4, hb2, hc⟩ := hr (by omega)
    rw [e1] at e4
    injection e4 with e4
    injection e4 with e5 e6
    subst e5 e6
    exact ⟨g, e1, hb, hlt, hc⟩

/-- the two halves of what has been read of a list -/
def nz (s : Nat) (g : List Nat) : List Nat := g.filter fun n => !Wv.bit s n
def on (s : Nat) (g : List Nat) : List Nat := g.filter (Wv.bit s)
theorem nz_snoc (s : Nat) (g : List Nat) (m : Nat) (h : m < g.length) (y : Bool) (hy : Wv.bit s (g.getD m 0) = y) : nz s (g.take (m + 1)) = nz s (g.take m) ++ (if y = true then [] else [g.getD m 0]) ∧ on s (g.take (m + 1)) = on s (g.take m) ++ (if y = true then [g.getD m 0] else []) := by
  have e : g.take (m + 1) = g.take m ++ [g.getD m 0] := by
    rw [List.take_succ_eq_append_getElem h, List.getD_eq_getElem?_getD, List.getElem?_eq_getElem h]; rfl
  unfold nz on
  rw [e, List.filter_append, List.filter_append]
  cases y <;> simp [List.filter_cons] <;> simp [List.getD_eq_getElem?_getD] at hy ⊢ <;> simp [hy]
theorem nz_len (s : Nat) (g : List Nat) (m : Nat) : (nz s (g.take m)).length ≤ m ∧ (on s (g.take m)).length ≤ m := by
  unfold nz on
  have h1 := List.length_filter_le (fun n => !Wv.bit s n) (g.take m)
  have h2 := List.length_filter_le (Wv.bit s) (g.take m)
  rw [List.length_take] at h1 h2
  omega
theorem share_take (s : Nat) (gs : List (List Nat)) (k : Nat) (hk : k < gs.length) : Wv.share s (gs.take (k + 1)) = Wv.share s (gs.take k) ++ (if (nz s (gs.getD k [])).length = 0 then [] else [nz s (gs.getD k [])]) ++ (if (on s (gs.getD k [])).length = 0 then [] else [on s (gs.getD k [])]) := by
  unfold Wv.share
  rw [List.take_succ_eq_append_getElem hk, List.flatMap_append, List.append_assoc]
  congr 1
  rw [show gs.getD k [] = gs[k] from by simp [hk], List.flatMap_cons, List.flatMap_nil, List.append_nil]
  unfold Wv.full nz on
  generalize gs[k].filter (fun n => !Wv.bit s n) = a
  generalize gs[k].filter (Wv.bit s) = b
  cases a <;> cases b <;> rfl
theorem share_len (s : Nat) (gs : List (List Nat)) : (Wv.share s gs).length ≤ 2 * gs.length := by
  unfold Wv.share
  induction gs with
  | nil => simp
  | cons g gs ih =>
    rw [List.flatMap_cons, List.length_append, List.length_cons]
    have := List.length_filter_le (fun g : List Nat => !g.isEmpty) [g.filter (fun n => !Wv.bit s n), g.filter (Wv.bit s)]
    unfold Wv.full at ih ⊢
    simp only [List.length_cons, List.length_nil] at this
    omega

end Go.Proofs.YtoejenejleocdabGreatDoor

/- The walk of shareOut. -/
namespace Go.Proofs.YtoejenejleocdabGreatDoor
open Go.RowKit

/-- one list more, if it is not empty -/
def more1 (S : List (List Nat)) (L : List Nat) : List (List Nat) := S ++ (if L.length = 0 then [] else [L])
theorem share_more (s : Nat) (gs : List (List Nat)) (k : Nat) (hk : k < gs.length) : Wv.share s (gs.take (k + 1)) = more1 (more1 (Wv.share s (gs.take k)) (nz s (gs.getD k []))) (on s (gs.getD k [])) := share_take s gs k hk
theorem more1_no (S : List (List Nat)) (L : List Nat) (h : L.length = 0) : more1 S L = S := by unfold more1; rw [if_pos h, List.append_nil]
theorem more1_yes (S : List (List Nat)) (L : List Nat) (h : ¬ L.length = 0) : more1 S L = S ++ [L] := by unfold more1; rw [if_neg h]
theorem more1_len (S : List (List Nat)) (L : List Nat) : (more1 S L).length ≤ S.length + 1 := by unfold more1; split <;> simp

/-- a list in the making lies in no block of the lists' own row -/
def Off (v : Value) (v5 : Value) : Prop := ∀ g, v.ownBlock = some g → v5.ownBlock ≠ some g

theorem grow_app {w : World} {S : List (List Nat)} {xs : List Value} {v5 : Value} {W1 : World} (h : GOwn w.heap.size 22 v5 S xs W1) {V : Nat} {L : List Nat} {A : Option Addr} {n c : Nat} (hL : ON V L (.slice A n c) W1) (hV : w.heap.size ≤ V) (hoff : Off (.slice A n c) v5) {v' : Value} {W2 : World}
    (h2 : W2.ownsRow w.heap.size 22 1 v' (S.length + 1) (xs ++ [.slice A n c])) (h3 : W1.grownBy W2 v5.ownBlock) (h4 : v'.ownBlock = v5.ownBlock ∨ v'.ownBlock = some W1.heap.size) : GOwn w.heap.size 22 v' (S ++ [L]) (xs ++ [.slice A n c]) W2 := by
  obtain ⟨hn, hl⟩ := hL.lies
  subst hn
  refine h.app L A c ?_ h3 h4 h2
  rcases hl with h0 | ⟨g, rfl, hVg, hlt, hc⟩
  · exact .inl h0
  · exact .inr ⟨g, 0, rfl, Nat.le_trans hV hVg, hlt, fun e => hoff g rfl e.symm, hc⟩
theorem off_app {v v5 v' : Value} {V : Nat} {W1 : World} {L : List Nat} (ho : ON V L v W1) (hoff : Off v v5) (h4 : v'.ownBlock = v5.ownBlock ∨ v'.ownBlock = some W1.heap.size) : Off v v' := by
  intro g hg
  rcases h4 with h4 | h4
  · rw [h4]; exact hoff g hg
  · rw [h4]; intro e; injection e with e
    have := (World.ownsRow.lt ho g hg).2; omega
theorem off_new {w V W : World} {L : List Nat} {v v5 : Value} {S : List (List Nat)} {xs : List Value} (ho : ON V.heap.size L v W) (h : GOwn w.heap.size 22 v5 S xs V) : Off v v5 := by
  intro g hg e
  have h1 := (World.ownsRow.lt ho g hg).1
  have h2 := (h.own.lt g e).2
  omega
theorem ON.below {V : Nat} {L : List Nat} {v : Value} {W W' : World} (h : ON V L v W) (hb : Below W.heap.size W W') : ON V L v W' := own_below h hb
theorem ON.grown {V : Nat} {L : List Nat} {v v5 : Value} {W W' : World} {base : Nat} {n : Nat} {xs : List Value} (h : ON V L v W) (h5 : W.ownsRow base 22 1 v5 n xs) (hg : W.grownBy W' v5.ownBlock) : ON V L v W' := World.ownsRow.kept h hg (own_ne h h5 (by decide))

set_option maxHeartbeats 4000000 in
theorem shareOut_any (G : Nat) (cb : Array Value) (s : Nat) (A : Option Addr) (c : Nat) (gs : List (List Nat)) (w : World) (eg : ∀ args w, (callFunc G args).run Tryz.prog w = .ok (.enter G args) w)
    (hr : GRow w w.heap.size A gs) (hC : IsOne G cb s w) (hx : ∀ n ∈ gs.flatten, n < 65536) (hg : gs.length ≤ 65536) (hn : gs.flatten.length ≤ 17592186043904) :
    Calls Tryz.prog 80 #[.slice A gs.length c, .func (.func G) #[] cb] w fun e w' => ∃ A' c', e = .returned (.slice A' (Wv.share s gs).length c') ∧ GRowL w' (fun b => w.heap.size ≤ b) w'.heap.size A' (Wv.share s gs) ∧ Below w.heap.size w w' := by
  obtain ⟨a, ca, hrow, hrows⟩ := hr
  have HR : Hid (∀ W, Below w.heap.size w W → ∀ k, k < gs.length → ∃ b o, A = some ⟨b, o, none⟩ ∧ W.cell? ⟨b, o + k, none⟩ = some (.slice (a k) (gs.getD k []).length (ca k))) := Lib.hid fun W h k hk => by
    obtain ⟨b, o, e, hb, hc⟩ := hrow (by omega)
    exact ⟨b, o, e, (h.cell (p := ⟨b, o + k, none⟩) hb).trans (hc k hk)⟩
  have HN : Hid (∀ W, Below w.heap.size w W → ∀ k, k < gs.length → ∀ m, m < (gs.getD k []).length → ∃ b o, a k = some ⟨b, o, none⟩ ∧ W.cell? ⟨b, o + m, none⟩ = some (.int .i64 (((gs.getD k []).getD m 0 : Nat) : Int)) ∧ (gs.getD k []).getD m 0 < 9223372036854775808) := Lib.hid fun W h k hk m hm => by
    obtain ⟨b, o, e, hb, hc⟩ := hrows k hk (by omega)
    refine ⟨b, o, e, (h.cell (p := ⟨b, o + m, none⟩) hb).trans (hc m hm), ?_⟩
    have := hx _ (mem_getD gs k m hk hm); omega
  have HC := Lib.hid hC
  have P2 := Lib.hid (share_more s gs)
  have P4 := Lib.hid (fun k (hk : k < gs.length) => show (Wv.share s (gs.take k)).length ≤ 131072 by
    have h1 := share_len s (gs.take k)
    rw [List.length_take] at h1
    omega)
  have P5 := Lib.hid (fun k => Nat.le_trans (get_len gs k) hn)
  have HF : Hid (∀ v W xs, GOwn w.heap.size 22 v (Wv.share s (gs.take gs.length)) xs W → Below w.heap.size w W → ∃ A' c', v = .slice A' (Wv.share s gs).length c' ∧ GRowL W (fun b => w.heap.size ≤ b) W.heap.size A' (Wv.share s gs)) := Lib.hid fun v W xs h hb => by
    rw [List.take_length] at h
    obtain ⟨A', c', rfl, _⟩ := own_slice h.own
    exact ⟨A', c', rfl, h.row rfl⟩
  have H0 : Hid (Wv.share s (gs.take 0) = []) := Lib.hid (by rw [List.take_zero]; rfl)
  generalize Wv.share s gs = SF at *
  generalize hSS : (fun k => Wv.share s (gs.take k)) = SS at *
  have HSS := Lib.hid (fun k => show Wv.share s (gs.take k) = SS k by rw [← hSS])
  rw [HSS.out] at H0 HF
  clear hrow hrows hx hC hn hSS
  generalize gs.length = n at *
  go_enter Tryz.func80, Tryz.ntmps80
  go_wp2
  go_loopw [5, 14] (fun s5 t W => ∃ (k : Nat) (xs : List Value), k ≤ n ∧ t = .int .i64 k ∧ GOwn w.heap.size 22 s5 (SS k) xs W ∧ Below w.heap.size w W) (fun _ t _ => n - (intOf t).toNat)
  case atStart => exact ⟨0, [], Nat.zero_le _, rfl, by rw [H0.out]; exact GOwn.nil _ _ _, Below.refl _ _⟩
  case round =>
    obtain ⟨k, xs, hk, rfl, I, hbW⟩ := hrel
    by_cases hlt : k < n
    · obtain ⟨b, o, rfl, hc1⟩ := HR.out wr hbW k hlt
      have hlz : (k : Int) < (n : Int) := by omega
      have Q2 := P2.out k hlt
      rw [HSS.out, HSS.out] at Q2
      have Q2 := Lib.hid Q2
      have Q4 := P4.out k hlt
      rw [HSS.out] at Q4
      have QN := Lib.hid (fun W hW m => HN.out W hW k hlt m)
      have hgl2 := P5.out k
      have HNx := Lib.hid (fun m hm y hy => nz_snoc s (gs.getD k []) m hm y hy)
      have HNl := Lib.hid (fun m => nz_len s (gs.getD k []) m)
      have HNe := Lib.hid (show nz s ((gs.getD k []).take (gs.getD k []).length) = nz s (gs.getD k []) ∧ on s ((gs.getD k []).take (gs.getD k []).length) = on s (gs.getD k []) by rw [List.take_length]; exact ⟨rfl, rfl⟩)
      generalize a k = ak at *
      generalize ca k = ck at *
      generalize gs.getD k [] = gk at *
      generalize SS k = S0 at *
      clear HR HN P2 P4 P5 HF H0
      generalize wr = V at *
      have HG := Lib.hid I
      have HbV := Lib.hid hbW
      clear I
      go_wp2
      go_loopw [8, 9, 20] (fun s8 s9 t W => ∃ m : Nat, m ≤ gk.length ∧ t = .int .i64 m ∧ SI V (nz s (gk.take m)) (on s (gk.take m)) s8 s9 W) (fun _ _ t _ => gk.length - (intOf t).toNat)
      case atStart => exact ⟨0, Nat.zero_le _, rfl, by rw [List.take_zero]; exact SI.nil V⟩
      case round =>
        clear hc1
        obtain ⟨m, hm, rfl, I⟩ := hrel
        have hold : Below w.heap.size w wr := hbW.trans (I.n.old.mono hbW.size)
        by_cases hlt2 : m < gk.length
        · obtain ⟨b2, o2, rfl, hc2, hx2⟩ := QN.out wr hold m hlt2
          have hlz2 : (m : Int) < (gk.length : Int) := by omega
          have HC2 := Lib.hid (HC.out wr hold _ hx2)
          obtain ⟨l1, l2⟩ := HNl.out m
          have hsz := I.n.old.size
          have J1 := I.on ((Below.refl _ wr).alloc (Nat.le_refl _) (.cells #[.int .i64 ((gk.getD m 0 : Nat) : Int)] 3))
          rw [← up_len] at l1 l2
          cases hy : Wv.bit s (gk.getD m 0)
          · obtain ⟨e1, e2⟩ := HNx.out m hlt2 false hy
            rw [hy] at HC2
            rw [if_neg (by decide)] at e1 e2
            rw [List.append_nil] at e2
            have E1 := Lib.hid e1
            have E2 := Lib.hid e2
            clear e1 e2 hy HNx HNl HNe QN Q2 HC HG
            generalize gk.getD m 0 = x at *
            generalize nz s (gk.take m) = N0 at *
            generalize on s (gk.take m) = O0 at *
            have hmx : (up N0).length + 1 ≤ maxLen := by unfold maxLen; omega
            go_wp2_with fail
            with_reducible refine HC2.out.mono ?_
            rintro e w' ⟨rfl, rfl⟩
            clear HC2
            go_wp2_with (at_builtin; refine wpList_app1 _ rfl _ _ 22 rfl V.heap.size 3 (.int .i64 0) 8 Tryz.underlying22 infoInt4 rfl _ (up N0).length ((up N0).map (Value.int .i64)) rfl wr.heap.size (.int .i64 x) rfl J1.n.own (new1 _ _ _) (by simp) rfl hmx (by omega) (by simp; omega) ?_; intro v' w2 h2 h3 h4)
            have J3 := J1.appN x h2 h3 h4
            go_roundw
            case rel => exact ⟨m + 1, by omega, by go_num, by rw [E1.out, E2.out]; exact J3⟩
            case measure => simp [intOf]; omega
          · obtain ⟨e1, e2⟩ := HNx.out m hlt2 true hy
            rw [hy] at HC2
            rw [if_pos rfl] at e1 e2
            rw [List.append_nil] at e1
            have E1 := Lib.hid e1
            have E2 := Lib.hid e2
            clear e1 e2 hy HNx HNl HNe QN Q2 HC HG
            generalize gk.getD m 0 = x at *
            generalize nz s (gk.take m) = N0 at *
            generalize on s (gk.take m) = O0 at *
            have hmx : (up O0).length + 1 ≤ maxLen := by unfold maxLen; omega
            go_wp2_with fail
            with_reducible refine HC2.out.mono ?_
            rintro e w' ⟨rfl, rfl⟩
            clear HC2
            go_wp2_with (at_builtin; refine wpList_app1 _ rfl _ _ 22 rfl V.heap.size 3 (.int .i64 0) 8 Tryz.underlying22 infoInt4 rfl _ (up O0).length ((up O0).map (Value.int .i64)) rfl wr.heap.size (.int .i64 x) rfl J1.o.own (new1 _ _ _) (by simp) rfl hmx (by omega) (by simp; omega) ?_; intro v' w2 h2 h3 h4)
            have J3 := J1.appO x h2 h3 h4
            go_roundw
            case rel => exact ⟨m + 1, by omega, by go_num, by rw [E1.out, E2.out]; exact J3⟩
            case measure => simp [intOf]; omega
        · have hmn : m = gk.length := by omega
          subst hmn
          rw [HNe.out.1, HNe.out.2] at I
          have hl8 := (nz_len s gk gk.length).1
          have hl9 := (nz_len s gk gk.length).2
          rw [HNe.out.1] at hl8
          rw [HNe.out.2] at hl9
          have o8 := off_new I.n.on_ HG.out
          have o9 := off_new I.o.on_ HG.out
          have G1 := HG.out.below I.n.old
          have I8 := I.n.on_
          have I9 := I.o.on_
          clear HNx HNl HNe QN HC HG I
          generalize nz s gk = N at *
          generalize on s gk = O at *
          generalize wr = W0 at *
          obtain ⟨A8, c8, rfl, _⟩ := own_slice I8
          obtain ⟨A9, c9, rfl, _⟩ := own_slice I9
          have hbase := hold.size
          go_upto_if 38 with fail
          go_cut [5, 14] from 14 to 50 (fun s5 s14 W => s14 = .int .i64 k ∧ ∃ xs, GOwn w.heap.size 22 s5 (more1 S0 N) xs W ∧ ON V.heap.size O (.slice A9 O.length c9) W ∧ Off (.slice A9 O.length c9) s5 ∧ Below w.heap.size w W)
          case first =>
            by_cases hN : N.length = 0
            · have hz : ¬ (0 : Int) < (N.length : Int) := by omega
              have HM := Lib.hid (more1_no S0 N hN)
              clear hN
              go_wp2_with fail
              go_meet
              exact ⟨rfl, _, by rw [HM.out]; exact G1, I9, o9, hold⟩
            · have hz : (0 : Int) < (N.length : Int) := by omega
              have HM := Lib.hid (more1_yes S0 N hN)
              have hmx : S0.length + 1 ≤ maxLen := by unfold maxLen; omega
              have hb1 := (Below.refl _ W0).alloc (Nat.le_refl _) (.cells #[.slice A8 N.length c8] 22)
              have G2 := G1.below hb1
              have J8 := I8.below hb1
              have J9 := I9.below hb1
              have hold1 := hold.trans (hb1.mono hold.size)
              clear hN
              go_wp2_with (at_builtin; refine wpList_app1 _ rfl _ _ 96 rfl w.heap.size 22 (.slice none 0 0) 24 Tryz.underlying96 infoSl rfl _ S0.length xs rfl W0.heap.size (.slice A8 N.length c8) rfl G2.own (new1 _ _ _) (by simp) rfl hmx (by omega) (by simp; omega) ?_; intro v' w2 h2 h3 h4)
              have G3 := grow_app G2 J8 HbV.out.size o8 h2 h3 h4
              have o9' := off_app J9 o9 h4
              have ho9 := J9.grown G2.own h3
              have hold2 := hold1.grown h3 hold1.size (fun g hg => (G2.own.lt g hg).1)
              go_meet
              exact ⟨rfl, _, by rw [HM.out]; exact G3, ho9, o9', hold2⟩
          case rest =>
            clear G1 I8 I9 o8 o9 hold
            obtain ⟨rfl, xs2, G1, I9, o9, hold⟩ := hcut
            have q4 := more1_len S0 N
            generalize more1 S0 N = S1 at *
            have hbase := hold.size
            have HQ := Lib.hid Q2.out
            clear Q2
            by_cases hN : O.length = 0
            · have hz : ¬ (0 : Int) < (O.length : Int) := by omega
              have HM := Lib.hid (more1_no S1 O hN)
              rw [HM.out] at HQ
              rw [← HQ.out] at G1
              clear hN HQ HM
              go_wp2
              go_roundw
              case rel => exact ⟨k + 1, _, by omega, by go_num, G1, hold⟩
              case measure => simp [intOf]; omega
            · have hz : (0 : Int) < (O.length : Int) := by omega
              have HM := Lib.hid (more1_yes S1 O hN)
              have hmx : S1.length + 1 ≤ maxLen := by unfold maxLen; omega
              have hb1 := (Below.refl _ wc).alloc (Nat.le_refl _) (.cells #[.slice A9 O.length c9] 22)
              have G2 := G1.below hb1
              have J9 := I9.below hb1
              have hold1 := hold.trans (hb1.mono hold.size)
              clear hN
              go_wp2_with (at_builtin; refine wpList_app1 _ rfl _ _ 96 rfl w.heap.size 22 (.slice none 0 0) 24 Tryz.underlying96 infoSl rfl _ S1.length xs2 rfl wc.heap.size (.slice A9 O.length c9) rfl G2.own (new1 _ _ _) (by simp) rfl hmx (by omega) (by simp; omega) ?_; intro v' w2 h2 h3 h4)
              have G3 := grow_app G2 J9 HbV.out.size o9 h2 h3 h4
              have hold2 := hold1.grown h3 hold1.size (fun g hg => (G2.own.lt g hg).1)
              rw [← HM.out, ← HQ.out] at G3
              go_roundw
              case rel => exact ⟨k + 1, _, by omega, by go_num, G3, hold2⟩
              case measure => simp [intOf]; omega
    · have hkn : k = n := by omega
      subst hkn
      obtain ⟨A9, c9, rfl, hG⟩ := HF.out _ _ _ I hbW
      have HG := Lib.hid hG
      clear HF P2 P4 P5 HR HN I hG HSS H0
      go_wp2
      go_ret
      exact ⟨A9, c9, rfl, HG.out, hbW⟩

end Go.Proofs.YtoejenejleocdabGreatDoor

/- Words for memory: the levels of a wave in the making; the closure of Make. -/
namespace Go.Proofs.YtoejenejleocdabGreatDoor
open Go.RowKit
attribute [local irreducible] Bt.pop Bt.popF

/-- a row of the call's own, and another world in which all blocks but new ones are as they were -/
theorem own_below' {w w' : World} {base : Nat} {e : TypeId} {size : Nat} {v : Value} {n : Nat} {xs : List Value} (h : w.ownsRow base e size v n xs) (hb : Below w.heap.size w w') : w'.ownsRow base e size v n xs := by
  refine ⟨h.1, ?_⟩
  rcases h.2 with h2 | ⟨g, cap, cur, hv, h1, hg, r⟩
  · exact .inl h2
  · refine .inr ⟨g, cap, cur, hv, h1, ?_, r⟩
    have hlt : g < w.heap.size := by
      rcases Nat.lt_or_ge g w.heap.size with h | h
      · exact h
      · rw [Array.getElem?_eq_none h] at hg; cases hg
    rw [hb.block g hlt, hg]
theorem IsBits.grown {w w' : World} {g g2 : Nat} {bs : List Bool} {r : Option Nat} (h : IsBits w w.heap.size (some ⟨g, 0, none⟩) (some ⟨g2, 0, none⟩) bs) (hg : w.grownBy w' r) (h1 : some g ≠ r) (h2 : some g2 ≠ r) : IsBits w' w'.heap.size (some ⟨g, 0, none⟩) (some ⟨g2, 0, none⟩) bs := by
  have k : ∀ {x n : Nat} {f : Nat → Value}, some x ≠ r → Row w w.heap.size (some ⟨x, 0, none⟩) n f → Row w' w'.heap.size (some ⟨x, 0, none⟩) n f := fun hx hr hn => by
    obtain ⟨b, o, e, hb, hc⟩ := hr hn
    injection e with e
    injection e with e1 e2
    subst e1 e2
    exact ⟨_, _, rfl, Nat.lt_of_lt_of_le hb hg.size, fun i hi => (hg.cell_far ⟨_, 0 + i, none⟩ hb hx).trans (hc i hi)⟩
  exact ⟨k h1 h.parts, k h2 h.ahead⟩
theorem IsBits.lt {w : World} {g g2 : Nat} {bs : List Bool} (h : IsBits w w.heap.size (some ⟨g, 0, none⟩) (some ⟨g2, 0, none⟩) bs) : g < w.heap.size ∧ g2 < w.heap.size := by
  obtain ⟨b, o, e, hb, _⟩ := h.parts (by omega)
  obtain ⟨b2, o2, e2, hb2, _⟩ := h.ahead (by omega)
  injection e with e; injection e with e1 _
  injection e2 with e2; injection e2 with e3 _
  subst e1 e3
  exact ⟨hb, hb2⟩

theorem IsBits.set {w : World} {g g2 : Nat} {bs : List Bool} (h : IsBits w w.heap.size (some ⟨g, 0, none⟩) (some ⟨g2, 0, none⟩) bs) (p : Addr) (u : Value) (h1 : p.block ≠ g) (h2 : p.block ≠ g2) : IsBits (w.setCell p u) (w.setCell p u).heap.size (some ⟨g, 0, none⟩) (some ⟨g2, 0, none⟩) bs := by
  have hs : (w.setCell p u).heap.size = w.heap.size := by simp
  have k : ∀ {x n : Nat} {f : Nat → Value}, p.block ≠ x → Row w w.heap.size (some ⟨x, 0, none⟩) n f → Row (w.setCell p u) (w.setCell p u).heap.size (some ⟨x, 0, none⟩) n f := fun hx hr hn => by
    obtain ⟨b, o, e, hb, hc⟩ := hr hn
    injection e with e
    injection e with e1 e2
    subst e1 e2
    exact ⟨_, _, rfl, by rw [hs]; exact hb, fun i hi => (World.cell?_setCell_far w p ⟨_, 0 + i, none⟩ u hx).trans (hc i hi)⟩
  exact ⟨k h1 h.parts, k h2 h.ahead⟩

/-- what the cells of level j tell -/
def LvX (base : Nat) (l : List Nat) (d j : Nat) (v : Value) (xs : List Value) (W : World) : Prop :=
  ∃ g g2 c1 c2, base ≤ g ∧ base ≤ g2 ∧ xs[j * 3]? = some (.int .i64 l.length) ∧ xs[j * 3 + 1]? = some (.slice (some ⟨g, 0, none⟩) (l.length / 64 + 1) c1) ∧ xs[j * 3 + 2]? = some (.slice (some ⟨g2, 0, none⟩) (l.length / 64 + 1) c2) ∧
    IsBits W W.heap.size (some ⟨g, 0, none⟩) (some ⟨g2, 0, none⟩) (Wv.lbits (d - 1 - j) (2 ^ j) l) ∧ some g ≠ v.ownBlock ∧ some g2 ≠ v.ownBlock
/-- k levels in the making -/
structure LvO (base : Nat) (l : List Nat) (d k : Nat) (v : Value) (xs : List Value) (W : World) : Prop where
  own : W.ownsRow base 100 3 v k xs
  each : ∀ j, j < k → LvX base l d j v xs W
theorem LvO.nil (base : Nat) (l : List Nat) (d : Nat) (W : World) : LvO base l d 0 (.slice none 0 0) [] W := ⟨World.ownsRow_nil _ _ _ _, fun j hj => absurd hj (by omega)⟩
theorem LvO.on {base : Nat} {l : List Nat} {d k : Nat} {v : Value} {xs : List Value} {W W' : World} (h : LvO base l d k v xs W) (hb : Below W.heap.size W W') : LvO base l d k v xs W' :=
  ⟨own_below' h.own hb, fun j hj => by
    obtain ⟨g, g2, c1, c2, b1, b2, h1, h2, h3, h4, h5⟩ := h.each j hj
    exact ⟨g, g2, c1, c2, b1, b2, h1, h2, h3, (h4.below hb).more hb.size, h5⟩⟩
/-- one level more -/
theorem LvO.app {base : Nat} {l : List Nat} {d k : Nat} {v v' : Value} {xs : List Value} {W W' : World} (h : LvO base l d k v xs W) (g g2 c1 c2 : Nat) (b1 : base ≤ g) (b2 : base ≤ g2)
    (hI : IsBits W W.heap.size (some ⟨g, 0, none⟩) (some ⟨g2, 0, none⟩) (Wv.lbits (d - 1 - k) (2 ^ k) l)) (n1 : some g ≠ v.ownBlock) (n2 : some g2 ≠ v.ownBlock)
    (hg : W.grownBy W' v.ownBlock) (hv : v'.ownBlock = v.ownBlock ∨ v'.ownBlock = some W.heap.size)
    (hnew : W'.ownsRow base 100 3 v' (k + 1) (xs ++ [.int .i64 l.length, .slice (some ⟨g, 0, none⟩) (l.length / 64 + 1) c1, .slice (some ⟨g2, 0, none⟩) (l.length / 64 + 1) c2])) :
    LvO base l d (k + 1) v' (xs ++ [.int .i64 l.length, .slice (some ⟨g, 0, none⟩) (l.length / 64 + 1) c1, .slice (some ⟨g2, 0, none⟩) (l.length / 64 + 1) c2]) W' := by
  have hlen : xs.length = k * 3 := h.own.1
  have hne' : ∀ x, x < W.heap.size → some x ≠ v.ownBlock → some x ≠ v'.ownBlock := fun x hlt hne he => by
    rcases hv with hv | hv
    · exact hne (by rw [he, hv])
    · rw [hv] at he; injection he with he; omega
  refine ⟨hnew, fun j hj => ?_⟩
  by_cases hjk : j < k
  · obtain ⟨a, a2, e1, e2, p1, p2, q1, q2, q3, q4, q5, q6⟩ := h.each j hjk
    obtain ⟨m1, m2⟩ := q4.lt
    refine ⟨a, a2, e1, e2, p1, p2, ?_, ?_, ?_, q4.grown hg q5 q6, hne' a m1 q5, hne' a2 m2 q6⟩
    · rw [List.getElem?_append_left (by omega)]; exact q1
    · rw [List.getElem?_append_left (by omega)]; exact q2
    · rw [List.getElem?_append_left (by omega)]; exact q3
  · obtain rfl : j = k := by omega
    obtain ⟨m1, m2⟩ := hI.lt
    refine ⟨g, g2, c1, c2, b1, b2, ?_, ?_, ?_, hI.grown hg n1 n2, hne' g m1 n1, hne' g2 m2 n2⟩
    · rw [List.getElem?_append_right (by omega), hlen, Nat.sub_self]; rfl
    · rw [List.getElem?_append_right (by omega), hlen, show j * 3 + 1 - j * 3 = 1 from by omega]; rfl
    · rw [List.getElem?_append_right (by omega), hlen, show j * 3 + 2 - j * 3 = 2 from by omega]; rfl
/-- all levels -/
theorem LvO.lv {base : Nat} {l : List Nat} {d : Nat} {A : Option Addr} {n c : Nat} {xs : List Value} {W : World} (h : LvO base l d d (.slice A n c) xs W) (hf : ∀ m ∈ l, m < 2 ^ d) : n = d ∧ d ≤ c ∧ LV W W.heap.size A d 0 l := by
  rcases h.own.2 with ⟨e, h0⟩ | ⟨g, cap, cur, e, _, hgc, hcap, _⟩
  · injection e with e1 e2 e3
    exact ⟨by omega, by omega, fun h => absurd h (by omega)⟩
  · injection e with e1 e2 e3
    subst e1 e2 e3
    have hlt : g < W.heap.size := by
      rcases Nat.lt_or_ge g W.heap.size with h' | h'
      · exact h'
      · rw [Array.getElem?_eq_none h'] at hgc; cases hgc
    refine ⟨rfl, hcap, fun _ => ⟨g, 0, rfl, hlt, fun j hj => ?_⟩⟩
    obtain ⟨a, a2, k1, k2, _, _, q1, q2, q3, q4, _⟩ := h.each j hj
    have hl : (Wv.lbits (n - 1 - j) (2 ^ (0 + j)) l).length = l.length := by
      rw [Nat.zero_add]
      exact Wv.lbits_len _ _ _ (by rw [show n - 1 - j + 1 + j = n from by omega]; exact hf)
    refine ⟨some ⟨a, 0, none⟩, k1, some ⟨a2, 0, none⟩, k2, ?_, ?_, ?_, by rw [Nat.zero_add]; exact q4⟩
    · rw [hl, Nat.zero_add, h.own.cellAt _ (by omega)]; exact q1
    · rw [hl, Nat.zero_add, h.own.cellAt _ (by omega)]; exact q2
    · rw [hl, Nat.zero_add, h.own.cellAt _ (by omega)]; exact q3

/-- the closure of Make -/
theorem make1_any (D K d k n : Nat) (w : World) (hD : w.cell? ⟨D, 0, none⟩ = some (.int .i64 d)) (hK : w.cell? ⟨K, 0, none⟩ = some (.int .i64 k)) (hn : n < 9223372036854775808) (hd : d ≤ 16) (hk : k < d) :
    Calls Tryz.prog 76 #[.int .i64 n, .pointer (some ⟨D, 0, none⟩), .pointer (some ⟨K, 0, none⟩)] w fun e w' => e = .returned (.bool (Wv.bit (d - 1 - k) n)) ∧ w = w' := by
  have HH := Lib.hid (fun W => hasOne_any n d k W hn hd hk)
  generalize Wv.bit (d - 1 - k) n = y at *
  go_enter Tryz.func76, Tryz.ntmps76
  go_wp2_with fail
  with_reducible refine (HH.out _).mono ?_
  rintro e w' ⟨rfl, rfl⟩
  go_wp2
  go_ret
  exact ⟨rfl, rfl⟩

/-- lists that hold the groups of level k -/
def GInv (l : List Nat) (d k : Nat) (gs : List (List Nat)) : Prop := Wv.full gs = Wv.full (Wv.groups (d - k) (2 ^ k) l) ∧ gs.length ≤ 2 ^ k
theorem GInv.flat {l : List Nat} {d k : Nat} {gs : List (List Nat)} (h : GInv l d k gs) : gs.flatten = Wv.lev (d - k) (2 ^ k) l := by
  rw [← Wv.flatten_full, h.1, Wv.flatten_full, Wv.flatten_groups]
theorem GInv.start (l : List Nat) (d : Nat) (hf : ∀ n ∈ l, n < 2 ^ d) : GInv l d 0 [l] := by
  refine ⟨?_, by simp⟩
  rw [Nat.sub_zero, Nat.pow_zero, Wv.groups_one d l hf]
theorem GInv.step {l : List Nat} {d k : Nat} {gs : List (List Nat)} (h : GInv l d k gs) (hk : k < d) : GInv l d (k + 1) (Wv.share (d - 1 - k) gs) := by
  have e : Wv.share (d - 1 - k) gs = Wv.full (Wv.groups (d - (k + 1)) (2 ^ (k + 1)) l) := by
    rw [← Wv.share_full, h.1, Wv.share_full, show d - k = d - 1 - k + 1 from by omega, Wv.share_groups, show d - 1 - k = d - (k + 1) from by omega, Nat.pow_succ, Nat.mul_comm]
  refine ⟨by rw [Wv.full_share, e], ?_⟩
  rw [e]
  unfold Wv.full
  exact Nat.le_trans (List.length_filter_le _ _) (by simp [Wv.groups])
theorem lev_mem (s m : Nat) (l : List Nat) (n : Nat) (h : n ∈ Wv.lev s m l) : n ∈ l := by
  unfold Wv.lev at h
  simp only [List.mem_flatMap] at h
  obtain ⟨p, _, hp⟩ := h
  exact (List.mem_filter.1 hp).1

end Go.Proofs.YtoejenejleocdabGreatDoor

/- Make: the wave of numbers that fit, or nothing. -/
namespace Go.Proofs.YtoejenejleocdabGreatDoor
open Go.RowKit
attribute [local irreducible] Bt.pop Bt.popF

/-- three cells of a wave -/
def wvF (N d : Int) (v : Value) : Nat → Value := fun j => if j = 0 then .int .i64 N else if j = 1 then .int .i64 d else v
theorem wvF_alloc (w : World) (N d : Int) (v : Value) : (w.alloc (.cells #[.int .i64 N, .int .i64 d, v] 31)).rowIs w.heap.size 31 3 (wvF N d v) := World.rowIs_alloc _ _ _ _ (fun i hi => by
  match i, hi with
  | 0, _ => rfl
  | 1, _ => rfl
  | 2, _ => rfl)

theorem insB_wrap (d : Nat) (l : List Nat) (h16 : d ≤ 16) (hf : ∀ n ∈ l, n < 2 ^ d) : insB (wrap64 (2 ^ d)) (l.map fun (n : Nat) => (n : Int)) = true := by
  rw [wrap_pow d h16, show (2 : Int) ^ d = ((2 ^ d : Nat) : Int) from by simp]
  exact insB_of _ l hf

/-- the memory of Make -/
structure MI (w : World) (X : Nat) (l : List Nat) (d k : Nat) (v : Value) (xs : List Value) (W : World) : Prop where
  dc : W.cell? ⟨w.heap.size, 0, none⟩ = some (.int .i64 d)
  res : W.rowIs (w.heap.size + 1) 31 3 (wvF 0 0 (.slice none 0 0))
  box : W.rowIs X 31 3 (wvF l.length d v)
  lv : LvO (X + 1) l d k v xs W
  old : Below w.heap.size w W
  x0 : w.heap.size + 2 ≤ X
section
variable {w : World} {X : Nat} {l : List Nat} {d k : Nat} {v : Value} {xs : List Value} {W W' : World}
theorem MI.on (h : MI w X l d k v xs W) (hb : Below W.heap.size W W') : MI w X l d k v xs W' :=
  ⟨(hb.cell (p := ⟨w.heap.size, 0, none⟩) (by have := h.res.lt; show w.heap.size < W.heap.size; omega)).trans h.dc, h.res.of_block (hb.block _ h.res.lt), h.box.of_block (hb.block _ h.box.lt), h.lv.on hb, h.old.trans (hb.mono h.old.size), h.x0⟩
/-- the wave's block behind an append to the levels -/
theorem MI.far (h : MI w X l d k v xs W) (hg : W.grownBy W' v.ownBlock) : W'.rowIs X 31 3 (wvF l.length d v) :=
  h.box.of_block (hg.block _ h.box.lt (fun e => by have := (h.lv.own.lt X e.symm).1; omega))
/-- behind an append to the levels, and the store of what it gives -/
theorem MI.app (h : MI w X l d k v xs W) {v' : Value} {xs' : List Value} (hg : W.grownBy W' v.ownBlock) (hlv : LvO (X + 1) l d (k + 1) v' xs' W') : MI w X l d (k + 1) v' xs' (W'.setCell ⟨X, 2, none⟩ v') := by
  have hx := h.x0
  have far : ∀ j, j ≤ X → some j ≠ v.ownBlock := fun j hj e => by have := (h.lv.own.lt j e.symm).1; omega
  have hlt := h.box.lt
  have hres := h.res.of_block (hg.block _ h.res.lt (far _ (by omega)))
  have hbox := h.box.of_block (hg.block _ h.box.lt (far _ (by omega)))
  have hdc : W'.cell? ⟨w.heap.size, 0, none⟩ = some (.int .i64 d) := (hg.cell_far ⟨w.heap.size, 0, none⟩ (by show w.heap.size < W.heap.size; omega) (far _ (by show w.heap.size ≤ X; omega))).trans h.dc
  have hold := h.old.grown hg h.old.size (fun g hgo => by have := (h.lv.own.lt g hgo).1; omega)
  have hbs : Below X W' (W'.setCell ⟨X, 2, none⟩ v') := (Below.refl _ _).setCell (by simp) _
  refine ⟨?_, hres.setOther (by simp; omega) _, (hbox.set 2 v').congr (fun i hi => ?_), ?_, hold.setCell (by simp; omega) _, hx⟩
  · exact (hbs.cell (p := ⟨w.heap.size, 0, none⟩) (by show w.heap.size < X; omega)).trans hdc
  · match i, hi with
    | 0, _ => rfl
    | 1, _ => rfl
    | 2, _ => rfl
  · refine ⟨ownsRow_setCell_below hlv.own (by simp) _, fun j hj => ?_⟩
    obtain ⟨g, g2, c1, c2, p1, p2, q1, q2, q3, q4, q5⟩ := hlv.each j hj
    exact ⟨g, g2, c1, c2, p1, p2, q1, q2, q3, q4.set ⟨X, 2, none⟩ v' (by simp; omega) (by simp; omega), q5⟩
end

end Go.Proofs.YtoejenejleocdabGreatDoor

/- Make of numbers that fit: the walk. -/
namespace Go.Proofs.YtoejenejleocdabGreatDoor
open Go.RowKit
attribute [local irreducible] Bt.pop Bt.popF

theorem infoBits4 : (Tryz.prog.info? 100).map (fun i => (i.zero, i.size, i.bytes)) = some (some (.agg #[.int .i64 0, .slice none 0 0, .slice none 0 0]), 3, 56) := by kernel_rfl

/-- in the middle of a round: the lists are there, and the level's number -/
structure RJ (w : World) (X K : Nat) (l : List Nat) (d k : Nat) (v : Value) (xs : List Value) (P : Nat → Prop) (A : Option Addr) (gs : List (List Nat)) (W : World) : Prop where
  mi : MI w X l d k v xs W
  row : GRowL W P W.heap.size A gs
  kc : W.cell? ⟨K, 0, none⟩ = some (.int .i64 k)
  ltK : K < W.heap.size
theorem RJ.on {w : World} {X K : Nat} {l : List Nat} {d k : Nat} {v : Value} {xs : List Value} {P : Nat → Prop} {A : Option Addr} {gs : List (List Nat)} {W W' : World} (h : RJ w X K l d k v xs P A gs W) (hb : Below W.heap.size W W') : RJ w X K l d k v xs P A gs W' :=
  ⟨h.mi.on hb, h.row.on hb, (hb.cell (p := ⟨K, 0, none⟩) h.ltK).trans h.kc, Nat.lt_of_lt_of_le h.ltK hb.size⟩
theorem RJ.isOne {w : World} {X K : Nat} {l : List Nat} {d k : Nat} {v : Value} {xs : List Value} {P : Nat → Prop} {A : Option Addr} {gs : List (List Nat)} {W : World} (h : RJ w X K l d k v xs P A gs W) (hd : d ≤ 16) (hk : k < d) : IsOne 76 #[.pointer (some ⟨w.heap.size, 0, none⟩), .pointer (some ⟨K, 0, none⟩)] (d - 1 - k) W :=
  fun _ hW n hn => make1_any w.heap.size K d k n _ (h.on hW).mi.dc (h.on hW).kc hn hd hk
/-- a store below the levels -/
theorem LvO.low {base : Nat} {l : List Nat} {d k : Nat} {v : Value} {xs : List Value} {W : World} (h : LvO base l d k v xs W) (p : Addr) (u : Value) (hp : p.block < base) : LvO base l d k v xs (W.setCell p u) :=
  ⟨ownsRow_setCell_below h.own hp _, fun j hj => by
    obtain ⟨g, g2, c1, c2, p1, p2, q1, q2, q3, q4, q5⟩ := h.each j hj
    exact ⟨g, g2, c1, c2, p1, p2, q1, q2, q3, q4.set p u (by omega) (by omega), q5⟩⟩
/-- the levels' cell -/
theorem MI.c2 {w : World} {X : Nat} {l : List Nat} {d k : Nat} {v : Value} {xs : List Value} {W : World} (h : MI w X l d k v xs W) : W.cell? ⟨X, 2, none⟩ = some v := h.box.cell (i := 2) (by omega)

/-- levels that have just been made, in new blocks -/
def LvMade (w : World) (l : List Nat) (d : Nat) (e : Ending) (w' : World) : Prop :=
  ∃ A' c' base xs, e = .returned (.tuple #[.agg #[.int .i64 l.length, .int .i64 d, .slice A' d c'], .bool true]) ∧ d ≤ c' ∧ w.heap.size ≤ base ∧ LvO base l d d (.slice A' d c') xs w' ∧ Below w.heap.size w w'

set_option maxHeartbeats 4000000 in
theorem make_new_lv (A : Option Addr) (c : Nat) (l : List Nat) (d : Nat) (w : World) (hr : NRow w w.heap.size A l) (h1 : 1 ≤ d) (h16 : d ≤ 16) (hf : ∀ n ∈ l, n < 2 ^ d) (hs : l.length ≤ 17592186043904) :
    Calls Tryz.prog 45 #[.slice A l.length c, .int .i64 d] w (LvMade w l d) := by
  have HM := Lib.hid (fun W => mayBeDeep_any d W)
  rw [deepOk_yes d (by omega) (by omega)] at HM
  have HA : Hid (∀ W, Below w.heap.size w W → Calls Tryz.prog 75 #[.slice A l.length c, .int .i64 (wrap64 (2 ^ d))] W fun e w' => e = .returned (.bool true) ∧ Below W.heap.size W w') := Lib.hid fun W hW => by
    have := allBelow_any A c (l.map fun (n : Nat) => (n : Int)) (wrap64 (2 ^ d)) W (hr.on hW).ints (by rw [List.length_map]; omega)
    rwa [insB_wrap d l h16 hf, List.length_map] at this
  have hb0 : Below w.heap.size w ((w.alloc (.cells #[.int .i64 d] 3)).alloc (.cells #[.int .i64 0, .int .i64 0, .slice none 0 0] 31)) := ((Below.refl _ _).alloc (Nat.le_refl _) _).alloc (by simp) _
  have hR := wvF_alloc (w.alloc (.cells #[.int .i64 d] 3)) 0 0 (.slice none 0 0)
  rw [World.size_alloc] at hR
  have hD : ((w.alloc (.cells #[.int .i64 d] 3)).alloc (.cells #[.int .i64 0, .int .i64 0, .slice none 0 0] 31)).cell? ⟨w.heap.size, 0, none⟩ = some (.int .i64 d) := by simp
  obtain ⟨V, hV⟩ : ∃ V, V = ((w.alloc (.cells #[.int .i64 d] 3)).alloc (.cells #[.int .i64 0, .int .i64 0, .slice none 0 0] 31)) := ⟨_, rfl⟩
  rw [← hV] at hb0 hR hD
  have hszV : V.heap.size = w.heap.size + 2 := by rw [hV]; simp
  have HV := Lib.hid hV
  clear hV
  go_enter Tryz.func45, Tryz.ntmps45
  go_wp2_with fail
  with_reducible refine (HM.out _).mono ?_
  rintro e w' ⟨rfl, rfl⟩
  go_wp2_with fail
  rw [← HV.out]
  with_reducible refine (HA.out V hb0).mono ?_
  rintro e w1 ⟨rfl, hb1⟩
  have hR1 := hR.of_block (hb1.block _ hR.lt)
  have hD1 : w1.cell? ⟨w.heap.size, 0, none⟩ = some (.int .i64 d) := (hb1.cell (p := ⟨w.heap.size, 0, none⟩) (by show w.heap.size < V.heap.size; omega)).trans hD
  have hb2 := hb0.trans (hb1.mono hb0.size)
  have hsz1 : w.heap.size + 2 ≤ w1.heap.size := by have := hb1.size; omega
  obtain ⟨V1, hV1⟩ : ∃ V1, V1 = w1.alloc (.cells #[.int .i64 l.length, .int .i64 d, .slice none 0 0] 31) := ⟨_, rfl⟩
  have hszV1 : V1.heap.size = w1.heap.size + 1 := by rw [hV1]; simp
  have hX1 : V1.rowIs w1.heap.size 31 3 (wvF l.length d (.slice none 0 0)) := by rw [hV1]; exact wvF_alloc w1 l.length d (.slice none 0 0)
  have hbV1 : Below w1.heap.size w1 V1 := by rw [hV1]; exact (Below.refl _ _).alloc (Nat.le_refl _) _
  have M1 : MI w w1.heap.size l d 0 (.slice none 0 0) [] V1 := by
    refine ⟨(hbV1.cell (p := ⟨w.heap.size, 0, none⟩) (by show w.heap.size < w1.heap.size; omega)).trans hD1, hR1.of_block (hbV1.block _ hR1.lt), hX1, LvO.nil _ _ _ _, hb2.trans (hbV1.mono hb2.size), hsz1⟩
  obtain ⟨V2, hV2⟩ : ∃ V2, V2 = V1.alloc (.cells #[.slice A l.length c] 22) := ⟨_, rfl⟩
  have hbV2 : Below V1.heap.size V1 V2 := by rw [hV2]; exact (Below.refl _ _).alloc (Nat.le_refl _) _
  have M2 := M1.on hbV2
  have G2 : GRowL V2 (fun b => b ≠ w1.heap.size) V2.heap.size (some ⟨V1.heap.size, 0, none⟩) [l] := by
    refine ⟨fun _ => A, fun _ => c, fun _ => ⟨V1.heap.size, 0, rfl, by rw [hV2]; simp, fun i hi => ?_⟩, fun x hx _ => ?_, fun i hi => ⟨?_, fun x hx hp => ?_⟩⟩
    · obtain rfl : i = 0 := by simpa using hi
      rw [hV2]; simp [gv]
    · injection hx with hx; subst hx; show V1.heap.size ≠ w1.heap.size; omega
    · obtain rfl : i = 0 := by simpa using hi
      exact hr.on M2.old
    · obtain rfl : i = 0 := by simpa using hi
      obtain ⟨b, o, e, hb, _⟩ := hr hp
      subst hx
      injection e with e; subst e
      show b ≠ w1.heap.size
      omega
  have d2 := M2.dc
  have HV1 := Lib.hid hV1
  have HV2 := Lib.hid hV2
  have HSZ := Lib.hid hszV1
  have HI : Hid (GInv l d 0 [l]) := Lib.hid (GInv.start l d hf)
  clear HA HM hR hR1 hb0 hb1 HV hV1 hV2 hszV1 hX1 hbV1 hbV2 M1 hD hszV
  go_upto_region 5 with fail
  rw [← HV1.out, ← HV2.out]
  first | rw [← HSZ.out] | skip
  clear HV1 HV2 HSZ
  go_wp2
  go_loopw [7, 28] (fun s7 t W => ∃ (k : Nat) (v : Value) (xs : List Value) (gs : List (List Nat)) (A' : Option Addr) (c' : Nat) (P : Nat → Prop), k ≤ d ∧ t = .int .i64 k ∧ s7 = .slice A' gs.length c' ∧ GRowL W P W.heap.size A' gs ∧ Hid ((∀ g, v.ownBlock = some g → ¬ P g) ∧ ¬ P w1.heap.size) ∧ Hid (GInv l d k gs) ∧ MI w w1.heap.size l d k v xs W) (fun _ t _ => d - (intOf t).toNat)
  case atStart => exact ⟨0, _, _, [l], _, 1, _, Nat.zero_le _, rfl, rfl, G2, (⟨fun g hg => by simp [Value.ownBlock] at hg, fun h => h rfl⟩ : _ ∧ _), HI, M2⟩
  case round =>
    obtain ⟨k, v, xs, gs, A', c', P, hk, rfl, rfl, G, HP, HG, M⟩ := hrel
    clear G2 HI M2 d2
    by_cases hlt : k < d
    · have hlz : (k : Int) < (d : Int) := by omega
      have hgl : gs.length ≤ 65536 := Nat.le_trans HG.out.2 (Nat.le_trans (Nat.pow_le_pow_right (by omega) (show k ≤ 16 by omega)) (by decide))
      have hflat := HG.out.flat
      have hbits : gs.flatten.map (Wv.bit (d - 1 - k)) = Wv.lbits (d - 1 - k) (2 ^ k) l := by rw [hflat]; unfold Wv.lbits; rw [show d - 1 - k + 1 = d - k from by omega]
      have hblen : (Wv.lbits (d - 1 - k) (2 ^ k) l).length = l.length := Wv.lbits_len _ _ _ (by rw [show d - 1 - k + 1 + k = d from by omega]; exact hf)
      have hflen : gs.flatten.length = l.length := by rw [← hblen, ← hbits, List.length_map]
      have hmem : ∀ n ∈ gs.flatten, n < 65536 := fun n hn => by
        rw [hflat] at hn
        have h3 := hf n (lev_mem _ _ _ _ hn)
        have h4 : 2 ^ d ≤ 2 ^ 16 := Nat.pow_le_pow_right (by omega) h16
        omega
      obtain ⟨V3, hV3⟩ : ∃ V3, V3 = wr.alloc (.cells #[.int .i64 k] 3) := ⟨_, rfl⟩
      have hbV3 : Below wr.heap.size wr V3 := by rw [hV3]; exact (Below.refl _ _).alloc (Nat.le_refl _) _
      have J0 : RJ w w1.heap.size wr.heap.size l d k v xs P A' gs V3 := ⟨M.on hbV3, G.on hbV3, by rw [hV3]; simp, by rw [hV3]; simp⟩
      have HBo := Lib.hid (fun W (h : RJ w w1.heap.size wr.heap.size l d k v xs P A' gs W) => show Calls Tryz.prog 79 #[.slice A' gs.length c', .func (.func 76) #[] #[.pointer (some ⟨w.heap.size, 0, none⟩), .pointer (some ⟨wr.heap.size, 0, none⟩)]] W fun e w' => ∃ Ab cb, e = .returned (.slice Ab l.length cb) ∧ Row w' w'.heap.size Ab l.length (fun i => .bool ((Wv.lbits (d - 1 - k) (2 ^ k) l).getD i false)) ∧ RJ w w1.heap.size wr.heap.size l d k v xs P A' gs w' from by
        refine (bitsOf_groups 76 _ (d - 1 - k) A' c' gs W (enters_of Tryz.func76 (by kernel_rfl) rfl) h.row.row (h.isOne h16 hlt) hmem (by omega) (by omega)).mono ?_
        rintro e w' ⟨vb, rfl, hO⟩
        rw [hbits] at hO
        obtain ⟨Ab, cb, rfl, _⟩ := own_slice hO.own
        obtain ⟨_, hrow⟩ := own_row false hO.own
        rw [hblen] at hrow ⊢
        exact ⟨Ab, cb, rfl, hrow, h.on hO.old⟩)
      have HMk := Lib.hid (fun W Ab cb (h : RJ w w1.heap.size wr.heap.size l d k v xs P A' gs W) (hrow : Row W W.heap.size Ab l.length (fun i => .bool ((Wv.lbits (d - 1 - k) (2 ^ k) l).getD i false))) => show Calls Tryz.prog 78 #[.slice Ab l.length cb] W fun e w' => ∃ g g2, e = .returned (.agg #[.int .i64 l.length, .slice (some ⟨g, 0, none⟩) (l.length / 64 + 1) (l.length / 64 + 1), .slice (some ⟨g2, 0, none⟩) (l.length / 64 + 1) (l.length / 64 + 1)]) ∧ w1.heap.size + 1 ≤ g ∧ w1.heap.size + 1 ≤ g2 ∧ some g ≠ v.ownBlock ∧ some g2 ≠ v.ownBlock ∧ IsBits w' w'.heap.size (some ⟨g, 0, none⟩) (some ⟨g2, 0, none⟩) (Wv.lbits (d - 1 - k) (2 ^ k) l) ∧ RJ w w1.heap.size wr.heap.size l d k v xs P A' gs w' from by
        refine (make_new Ab l.length cb (Wv.lbits (d - 1 - k) (2 ^ k) l) W hrow hblen.symm (by omega)).mono ?_
        rintro e w' ⟨g, g2, rfl, p1, p2, hI, hb⟩
        have hlx := h.mi.box.lt
        have hne : ∀ x, W.heap.size ≤ x → some x ≠ v.ownBlock := fun x hx e => by have := (h.mi.lv.own.lt x e.symm).2; omega
        exact ⟨g, g2, rfl, by omega, by omega, hne g p1, hne g2 p2, hI, h.on hb⟩)
      have hvK : ∀ g, v.ownBlock = some g → g < wr.heap.size := fun g hg => (M.lv.own.lt g hg).2
      have hXK : w1.heap.size < wr.heap.size := M.box.lt
      have HSh := Lib.hid (fun W v' xs' (hM : MI w w1.heap.size l d (k + 1) v' xs' W) (hG : GRowL W P W.heap.size A' gs) (hKc : W.cell? ⟨wr.heap.size, 0, none⟩ = some (.int .i64 k)) (hKl : wr.heap.size < W.heap.size) => shareOut_any 76 #[.pointer (some ⟨w.heap.size, 0, none⟩), .pointer (some ⟨wr.heap.size, 0, none⟩)] (d - 1 - k) A' c' gs W (enters_of Tryz.func76 (by kernel_rfl) rfl) hG.row
        (fun _ hW n hn => make1_any w.heap.size wr.heap.size d k n _ (hM.on hW).dc ((hW.cell (p := ⟨wr.heap.size, 0, none⟩) hKl).trans hKc) hn h16 hlt) hmem hgl (by omega))
      have HGs := Lib.hid (HG.out.step hlt)
      have HV3 := Lib.hid hV3
      have J1 := J0.on (Below.refl _ _).drew
      have c2 := J0.mi.c2
      have h63 : k + 1 ≤ maxLen := by unfold maxLen; omega
      have hby : (k + 1) * 56 ≤ 140737488355328 := by omega
      clear hV3 hflat hbits hblen hflen hmem hbV3 G M HG
      go_upto_region 9 with fail
      rw [← HV3.out]
      clear HV3
      refine wp_region_takes 7 [0, 1, 2, 3] [4, 5, 6] (fun w' => w'.cell? ⟨w1.heap.size, 2, none⟩ = some v) (by kernel_rfl) (by kernel_rfl) c2 ?_
      refine wpTakes_cons (v := ?_) _ at0 rfl ?_ ?_ ?_
      rotate_left 1
      · intro W x0
        go_simp
        rfl
      · exact fun _ _ _ h => h
      simp only [Act.put, List.setIfInBounds_toArray, List.set_cons_zero, List.set_cons_succ]
      refine wpTakes_cons (v := ?_) _ at1 rfl ?_ ?_ ?_
      rotate_left 1
      · intro W x0
        go_simp
        rfl
      · exact fun _ _ _ h => h
      simp only [Act.put, List.setIfInBounds_toArray, List.set_cons_zero, List.set_cons_succ]
      refine wpTakes_cons (v := ?_) _ at2 rfl ?_ ?_ ?_
      rotate_left 1
      · intro W x0
        go_simp
        rfl
      · exact fun _ _ _ h => h
      simp only [Act.put, List.setIfInBounds_toArray, List.set_cons_zero, List.set_cons_succ]
      refine wpTakes_cons (v := ?_) _ at3 rfl ?_ ?_ ?_
      rotate_left 1
      · intro W x0
        go_simp
        rfl
      · exact fun _ _ _ h => h
      simp only [Act.put, List.setIfInBounds_toArray, List.set_cons_zero, List.set_cons_succ]
      refine wpTakes_nil (wpCalls_cons _ at4 rfl fun K hK => ?_)
      go_simp
      go_at_call 79
      refine (HBo.out _ J1).mono ?_
      rintro e w3 ⟨Ab, cb, rfl, hrow, J2⟩
      refine hK.out _ _ J2.mi.c2 ?_
      clear hK
      refine wpCalls_cons _ at5 rfl fun K hK => ?_
      go_simp
      go_at_call 78
      refine (HMk.out _ _ _ J2 hrow).mono ?_
      rintro e w4 ⟨g, g2, rfl, p1, p2, n1, n2, hI, J3⟩
      refine hK.out _ _ J3.mi.c2 ?_
      clear hK
      refine wpCalls_cons _ at6 rfl fun K hK => ?_
      go_simp
      have hbb := (Below.refl _ w4).alloc (Nat.le_refl _) (.cells #[.int .i64 l.length, .slice (some ⟨g, 0, none⟩) (l.length / 64 + 1) (l.length / 64 + 1), .slice (some ⟨g2, 0, none⟩) (l.length / 64 + 1) (l.length / 64 + 1)] 100)
      have J4 := J3.on hbb
      have hI4 := (hI.below hbb).more hbb.size
      refine hK.out _ _ J4.mi.c2 (wpCalls_nil ?_)
      clear hK J3 hI
      simp only [List.drop_succ_cons, List.drop_zero]
      obtain ⟨bi, hbi, hbz⟩ := Option.map_eq_some_iff.1 infoBits4
      simp only [Prod.mk.injEq] at hbz
      obtain ⟨z1, z2, z3⟩ := hbz
      have hx1 := J4.mi.box.lt
      obtain ⟨W4, hW4⟩ : ∃ W4, W4 = w4.alloc (.cells #[.int .i64 l.length, .slice (some ⟨g, 0, none⟩) (l.length / 64 + 1) (l.length / 64 + 1), .slice (some ⟨g2, 0, none⟩) (l.length / 64 + 1) (l.length / 64 + 1)] 100) := ⟨_, rfl⟩
      have hnews : ∀ j u, ([.int .i64 l.length, .slice (some ⟨g, 0, none⟩) (l.length / 64 + 1) (l.length / 64 + 1), .slice (some ⟨g2, 0, none⟩) (l.length / 64 + 1) (l.length / 64 + 1)] : List Value)[j]? = some u → W4.cell? ((⟨w4.heap.size, 0, none⟩ : Addr).add j) = some u := by
        rw [hW4]
        exact World.news_of_block (t := 100) (fr := (0, 0)) (heap_alloc_new w4 _)
      rw [← hW4] at J4 hI4 hx1 ⊢
      clear hW4 hbb
      have hGS : Hid (∀ (W5 : World) (v' : Value) (xs' : List Value), W4.grownBy W5 v.ownBlock → LvO (w1.heap.size + 1) l d (k + 1) v' xs' W5 → MI w w1.heap.size l d (k + 1) v' xs' (W5.setCell ⟨w1.heap.size, 2, none⟩ v') ∧ GRowL (W5.setCell ⟨w1.heap.size, 2, none⟩ v') P (W5.setCell ⟨w1.heap.size, 2, none⟩ v').heap.size A' gs ∧ (W5.setCell ⟨w1.heap.size, 2, none⟩ v').cell? ⟨wr.heap.size, 0, none⟩ = some (.int .i64 k) ∧ wr.heap.size < (W5.setCell ⟨w1.heap.size, 2, none⟩ v').heap.size) := Lib.hid fun W5 v' xs' hg hl => by
        refine ⟨J4.mi.app hg hl, (J4.row.grown hg HP.out.1).set ⟨w1.heap.size, 2, none⟩ v' HP.out.2, ?_, by have := hg.size; have := J4.ltK; simp; omega⟩
        refine (World.cell?_setCell_far W5 ⟨w1.heap.size, 2, none⟩ ⟨wr.heap.size, 0, none⟩ v' (by simp; omega)).trans ?_
        exact (hg.cell_far ⟨wr.heap.size, 0, none⟩ J4.ltK (fun e => by have := hvK wr.heap.size e.symm; omega)).trans J4.kc
      go_wp2_with (at_builtin; refine wpList_append_lies _ rfl _ _ 29 rfl (w1.heap.size + 1) 100 bi _ 3 56 Tryz.underlying29 hbi z1 z2 z3 rfl (by omega) v k xs rfl J4.mi.lv.own ⟨w4.heap.size, 0, none⟩ 1 1 _ rfl rfl hnews (by intro u hu; simp at hu; rcases hu with rfl | rfl | rfl <;> rfl) (by omega) h63 hby (by omega) _ rfl ?_; intro g5 cap5 w5 o5 gr5 at5 lt5; have b5 := J4.mi.far gr5; have e5 : w5.cell? ⟨w1.heap.size, 2, none⟩ = some v := b5.cell (i := 2) (by omega); have f5 := b5.frozen 2)
      have L5 : LvO (w1.heap.size + 1) l d (k + 1) (.slice (some ⟨g5, 0, none⟩) (k + 1) cap5) _ w5 := J4.mi.lv.app g g2 _ _ p1 p2 hI4 n1 n2 gr5 (at5.elim (fun h => .inl h.symm) (fun h => .inr (congrArg some h))) o5
      obtain ⟨M6, G6, K6, l6⟩ := hGS.out _ _ _ gr5 L5
      obtain ⟨W6, hW6⟩ : ∃ W6, W6 = w5.setCell ⟨w1.heap.size, 2, none⟩ (.slice (some ⟨g5, 0, none⟩) (k + 1) cap5) := ⟨_, rfl⟩
      rw [← hW6] at M6 G6 K6 l6 ⊢
      have HS6 := Lib.hid (HSh.out W6 _ _ M6 G6 K6 l6)
      clear hW6 hGS HSh L5 o5 gr5 at5 lt5 b5 e5 f5 J4 J1 J2 hI4 HBo HMk
      go_wp2_with fail
      with_reducible refine HS6.out.mono ?_
      rintro e w7 ⟨A7, c7, rfl, G7, hb7⟩
      have M7 := M6.on hb7
      have HP7 : Hid ((∀ x, (Value.slice (some ⟨g5, 0, none⟩) (k + 1) cap5).ownBlock = some x → ¬ W6.heap.size ≤ x) ∧ ¬ W6.heap.size ≤ w1.heap.size) := Lib.hid ⟨fun x hx => by have := (M6.lv.own.lt x hx).2; omega, by have := M6.box.lt; omega⟩
      clear HS6 M6 G6 K6 l6
      generalize Wv.share (d - 1 - k) gs = gs7 at *
      go_wp2
      go_roundw
      case rel => exact ⟨k + 1, _, _, gs7, A7, c7, _, by omega, by go_num, rfl, G7, HP7, HGs, M7⟩
      case measure => simp [intOf]; omega
    · have hkd : k = d := by omega
      subst hkd
      obtain ⟨A9, c9, rfl⟩ : ∃ A9 c9, v = .slice A9 k c9 := by
        rcases M.lv.own.2 with ⟨e, h0⟩ | ⟨g, cap, cur, e, _⟩
        · exact ⟨none, 0, by rw [e]; congr 1; exact h0.symm⟩
        · exact ⟨_, _, e⟩
      obtain ⟨_, hcap, hLV⟩ := M.lv.lv hf
      have HC := Lib.hid hcap
      have x0 : wr.cell? ⟨w1.heap.size, 0, none⟩ = some (.int .i64 l.length) := M.box.cell (i := 0) (by omega)
      have x1 : wr.cell? ⟨w1.heap.size, 1, none⟩ = some (.int .i64 k) := M.box.cell (i := 1) (by omega)
      have x2 : wr.cell? ⟨w1.heap.size, 2, none⟩ = some (.slice A9 k c9) := M.box.cell (i := 2) (by omega)
      have r0 : wr.cell? ⟨w.heap.size + 1, 0, none⟩ = some (.int .i64 0) := M.res.cell (i := 0) (by omega)
      have r1 : wr.cell? ⟨w.heap.size + 1, 1, none⟩ = some (.int .i64 0) := M.res.cell (i := 1) (by omega)
      have r2 : wr.cell? ⟨w.heap.size + 1, 2, none⟩ = some (.slice none 0 0) := M.res.cell (i := 2) (by omega)
      have f0 := M.res.frozen 0
      have f1 := M.res.frozen 1
      have f2 := M.res.frozen 2
      have HR := Lib.hid (((M.res.set 0 (.int .i64 l.length)).set 1 (.int .i64 k)).set 2 (.slice A9 k c9))
      have hold := M.old
      have HB9 : Hid (w.heap.size ≤ w1.heap.size + 1) := Lib.hid (by have := M.x0; omega)
      have HW9 : Hid (∀ a b e : Value, LvO (w1.heap.size + 1) l k k (.slice A9 k c9) xs (((wr.setCell ⟨w.heap.size + 1, 0, none⟩ a).setCell ⟨w.heap.size + 1, 1, none⟩ b).setCell ⟨w.heap.size + 1, 2, none⟩ e)) := Lib.hid fun a b e => by
        have hx := M.x0
        exact ((M.lv.low ⟨w.heap.size + 1, 0, none⟩ a (by show w.heap.size + 1 < w1.heap.size + 1; omega)).low ⟨w.heap.size + 1, 1, none⟩ b (by show w.heap.size + 1 < w1.heap.size + 1; omega)).low ⟨w.heap.size + 1, 2, none⟩ e (by show w.heap.size + 1 < w1.heap.size + 1; omega)
      clear M HG HP hcap hLV G
      go_wp2
      have s0 := HR.out.cell (i := 0) (by omega)
      have s1 := HR.out.cell (i := 1) (by omega)
      have s2 := HR.out.cell (i := 2) (by omega)
      simp at s0 s1 s2
      refine bodyPost_ret (v := .tuple #[.agg #[.int .i64 l.length, .int .i64 k, .slice A9 k c9], .bool true]) (by simp [results, Tryz.results45, go_sem, s0, s1, s2]) rfl ⟨A9, c9, _, xs, rfl, HC.out, HB9.out, HW9.out _ _ _, ?_⟩
      exact ((hold.setCell (by simp) _).setCell (by simp) _).setCell (by simp) _

/-- levels that have been made are a wave -/
theorem LvO.wave {base : Nat} {l : List Nat} {d : Nat} {A : Option Addr} {c : Nat} {xs : List Value} {W : World} (h : LvO base l d d (.slice A d c) xs W) (hf : ∀ n ∈ l, n < 2 ^ d) (h1 : 1 ≤ d) (h16 : d ≤ 16) (hs : l.length ≤ 17592186043904) : Wave W A d l := ⟨(h.lv hf).2.2, hf, h1, h16, by omega⟩
end Go.Proofs.YtoejenejleocdabGreatDoor
