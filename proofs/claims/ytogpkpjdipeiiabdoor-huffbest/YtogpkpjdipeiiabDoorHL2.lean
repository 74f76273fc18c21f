/- Walk of the document's own least cost. -/
import Derived.Test.YtogpkpjdipeiiabDoorHL
import Derived.Test.YtogpkpjdipeiiabDoorIn
namespace Go.Proofs.YtogpkpjdipeiiabDoor
open Go.RowKit Pm

theorem own_val {w : World} {base : Nat} {v : Value} {F : List Nat} (h : w.ownsRow base 3 1 v F.length (natVals F)) : (v = .slice none 0 0 ∧ F = []) ∨ ∃ g cap, v = .slice (some ⟨g, 0, none⟩) F.length cap ∧ base ≤ g ∧ g < w.heap.size ∧ F.length ≤ cap := by
  rcases h.2 with ⟨rfl, h0⟩ | ⟨g, cap, cur, rfl, hb, hg, hn, _⟩
  · exact .inl ⟨rfl, List.length_eq_zero_iff.1 h0⟩
  · exact .inr ⟨g, cap, rfl, hb, (h.lt g rfl).2, hn⟩

theorem sum_one (F : List Nat) (h : F.length = 1) : F.sum = F[0] :=
  match F, h with
  | [x], _ => by simp
theorem pre_rev (F : List Nat) (i : Nat) (h : i ≤ F.length) : pre F.reverse (F.length - i) = (F.drop i).sum := by
  unfold pre
  rw [List.take_reverse, show F.length - (F.length - i) = i from by omega]
  exact (List.reverse_perm _).sum_nat
theorem ord_rev (F : List Nat) (h : Fall F) : Ord F.reverse := List.pairwise_reverse.2 h
theorem drop_sum (F : List Nat) (k : Nat) (h : k < F.length) : (F.drop k).sum = F[k] + (F.drop (k + 1)).sum := by
  rw [List.drop_eq_getElem_cons h, List.sum_cons]
theorem sum_le (F : List Nat) (B : Nat) (h : ∀ x ∈ F, x ≤ B) : F.sum ≤ F.length * B := by
  induction F with
  | nil => simp
  | cons a F ih =>
    have h1 := h a (by simp)
    have h2 := ih (fun x hx => h x (by simp [hx]))
    rw [List.sum_cons, List.length_cons, Nat.add_mul]; omega
theorem drop_le (F : List Nat) (k : Nat) : (F.drop k).sum ≤ F.sum := by
  have := List.take_append_drop k F
  have e : F.sum = (F.take k).sum + (F.drop k).sum := by rw [← List.sum_append, this]
  omega
/-- Sums from a place on, from k on. -/
def restz (F : List Nat) (k j : Nat) : Int := if k ≤ j then ((F.drop j).sum : Nat) else 0
theorem restz_last (F : List Nat) (j : Nat) : restz F F.length j = 0 := by
  unfold restz
  split
  · rename_i h; rw [List.drop_eq_nil_of_le h]; rfl
  · rfl
theorem restz_step (F : List Nat) (k j : Nat) : (if j = k then (((F.drop k).sum : Nat) : Int) else restz F (k + 1) j) = restz F k j := by
  unfold restz
  by_cases e : j = k
  · subst e; rw [if_pos rfl, if_pos (Nat.le_refl _)]
  · rw [if_neg e]
    by_cases e2 : k ≤ j
    · rw [if_pos e2, if_pos (by omega)]
    · rw [if_neg e2, if_neg (by omega)]
/-- The table, its first j places filled. -/
def tabz (j x : Nat) : Int := if x < j then -1 else 0
theorem tabz_step (j x : Nat) : (if x = j then (-1 : Int) else tabz j x) = tabz (j + 1) x := by
  unfold tabz
  by_cases e : x = j
  · subst e; rw [if_pos rfl, if_pos (by omega)]
  · rw [if_neg e]
    by_cases e2 : x < j
    · rw [if_pos e2, if_pos (by omega)]
    · rw [if_neg e2, if_neg (by omega)]


set_option maxHeartbeats 4000000 in
set_option maxRecDepth 100000 in
theorem leastCost_any (ao : Option Addr) (len cap M : Nat) (z : Nat → Int) (w : World) (hP : IsInts w ao len z) (hlen : len ≤ 300) (hz : ∀ i, i < len → z i = nat z i ∧ nat z i ≤ 1048576) (hM1 : 1 ≤ M) (hM : M ≤ 15) :
    Calls Tryd.prog 32 #[.slice ao len cap, .int .i64 (M : Int)] w fun e w' => ∃ A : List Nat, Ord A ∧ A.Perm (posOf (nat z) len) ∧
      e = .returned (.int .i64 ((if A.length = 0 then 0 else if A.length = 1 then A.sum else bst A A.length M 0 2 : Nat) : Int)) ∧ Below w.heap.size w w' := by
  have HP := hide hP
  have Hz := hide hz
  clear hP hz
  go_enter Tryd.func32, Tryd.ntmps32
  go_wp2
  go_loopw [5, 6] (fun lv iv wr => ∃ (i : Nat) (F : List Nat), i ≤ len ∧ iv = .int .i64 i ∧ Fall F ∧ F.Perm (posOf (nat z) i) ∧ wr.ownsRow w.heap.size 3 1 lv F.length (natVals F) ∧ Below w.heap.size w wr) (fun _ iv _ => len - (intOf iv).toNat)
  case atStart => exact ⟨0, [], by omega, rfl, List.Pairwise.nil, List.Perm.refl _, World.ownsRow_nil _ _ _ _, Below.refl _ _⟩
  case round =>
    obtain ⟨i, F, hi, rfl, hF, hperm, hown, hb⟩ := hrel
    have hFl : F.length ≤ i := by rw [hperm.length_eq]; exact posOf_length _ _
    by_cases hlt : i < len
    · have hdi : decide ((i : Int) < (len : Int)) = true := by simp; omega
      rcases unhide HP with h0 | ⟨b, off, rfl, hm, hPc⟩
      · omega
      obtain ⟨c0, _, _⟩ := hPc i hlt
      have hll : b < w.heap.size := World.block_lt_of_cell? _ _ c0
      rw [← hb.cell (p := ⟨b, off + i, none⟩) hll] at c0
      obtain ⟨hzi, hz20⟩ := unhide Hz i hlt
      rw [hzi] at c0
      have Hp0 := hide (posOf_zero (nat z) i)
      have Hp1 := hide (posOf_pos (nat z) i)
      clear hzi hPc
      have HF := hide hF
      have Hperm := hide hperm
      have Hown := hide hown
      clear hF hperm hown
      generalize nat z i = c at *
      by_cases h0 : c = 0
      · have Hq := hide (unhide Hp0 h0)
        subst h0
        go_wp2
        go_roundw
        case rel => exact ⟨i + 1, F, by omega, by go_num, unhide HF, by rw [unhide Hq]; exact unhide Hperm, unhide Hown, hb⟩
        case measure => simp [intOf]; omega
      · have e0 : ((c : Int) == 0) = false := by simp; omega
        have Hq := hide (unhide Hp1 (by omega))
        rcases own_val (unhide Hown) with ⟨rfl, hFn⟩ | ⟨g, capl, rfl, hg, hgl, hcl⟩
        · subst hFn
          go_wp2
          go_loopw [7] (fun kk wr2 => kk = .int .i64 0 ∧ Below w.heap.size w wr2) (fun _ _ => 0)
          case atStart => exact ⟨rfl, hb⟩
          case round =>
            obtain ⟨rfl, hb2⟩ := hrel
            have c02 := (hb2.cell (p := ⟨b, off + i, none⟩) hll).trans ((hb.cell (p := ⟨b, off + i, none⟩) hll).symm.trans c0)
            go_wp2
            go_region
            go_wp2_with (at_builtin; refine wpList_app_ints _ rfl (.tmp 42) (.tmp 45) rfl w.heap.size (.slice none 0 0) (.slice none 0 0) [] [] rfl rfl (World.ownsRow_nil _ _ _ _) (.inl ⟨rfl, rfl⟩) (by decide) hb2.size ?_)
            intro v1 w1 hown1 hgr1 hat1
            have hb3 : Below w.heap.size w w1 := hb2.drew.grown hgr1 hb2.size (fun k e => by simp [Value.ownBlock] at e)
            have c03 := (hb3.cell (p := ⟨b, off + i, none⟩) hll).trans ((hb.cell (p := ⟨b, off + i, none⟩) hll).symm.trans c0)
            have Hown1 := hide (hown1.alloc (.cells #[.int .i64 (c : Int)] 3))
            have hsz1 : (w1.alloc (.cells #[.int .i64 (c : Int)] 3)).heap.size = w1.heap.size + 1 := by simp
            have hlt1 := hown1.lt
            have Hat1 := hide hat1
            clear hgr1 hown1 hat1 hb2 c02
            go_wp2_with (at_builtin; refine wpList_app_ints _ rfl (.tmp 47) (.tmp 52) rfl w.heap.size v1 (.slice (some ⟨w1.heap.size, 0, none⟩) 1 1) [] [c] rfl rfl (unhide Hown1) (src_one (by simp)) (by simp) (by have := hb3.size; rw [hsz1]; omega) ?_)
            intro v2 w2 hown2 hgr2 hat2
            have hb4 : Below w.heap.size w w2 := (hb3.alloc hb3.size _).grown hgr2 (by have := hb3.size; rw [hsz1]; omega) (fun k e => (hlt1 k e).1)
            have Hown2 := hide hown2
            clear hgr2 hown2 hat2 hlt1 hsz1
            go_wp2_with (at_builtin; refine wpList_app_ints _ rfl (.tmp 54) (.tmp 57) rfl w.heap.size v2 (.slice none 0 0) [c] [] rfl rfl (unhide Hown2) (.inl ⟨rfl, rfl⟩) (by simp) hb4.size ?_)
            intro v3 w3 hown3 hgr3 hat3
            have hb5 : Below w.heap.size w w3 := hb4.grown hgr3 hb4.size (fun k e => ((unhide Hown2).lt k e).1)
            have Hown3 := hide hown3
            clear hgr3 hown3 hat3
            go_wp2
            go_roundw
            case rel => exact ⟨i + 1, [c], by omega, by go_num, by simp [Fall], by rw [unhide Hq]; exact (unhide Hperm).append_right [c], unhide Hown3, hb5⟩
            case measure => simp [intOf]; omega
        · go_wp2
          go_loopw [7] (fun kk wr2 => ∃ k : Nat, k ≤ F.length ∧ kk = .int .i64 k ∧ (∀ j, j < k → ∀ y, F[j]? = some y → c ≤ y) ∧ wr2.ownsRow w.heap.size 3 1 (.slice (some ⟨g, 0, none⟩) F.length capl) F.length (natVals F) ∧ g < wr2.heap.size ∧ Below w.heap.size w wr2) (fun kk _ => F.length - (intOf kk).toNat)
          case atStart => exact ⟨0, by omega, rfl, fun j hj => by omega, unhide Hown, hgl, hb⟩
          case round =>
            obtain ⟨k, hk, rfl, hge, hown2, hgl2, hb2⟩ := hrel
            have c02 := (hb2.cell (p := ⟨b, off + i, none⟩) hll).trans ((hb.cell (p := ⟨b, off + i, none⟩) hll).symm.trans c0)
            have Hown2 := hide hown2
            have Hge := hide hge
            clear hown2 hge
            by_cases hkl : k < F.length
            · have hd1 : decide ((k : Int) < (F.length : Int)) = true := by simp; omega
              have hd2 : decide (k < F.length) = true := by simp; omega
              have cl := own_cell (unhide Hown2) k hkl
              have hkF := hide (List.getElem?_eq_getElem hkl)
              have hki : (k : Int) < (F.length : Int) := by omega
              generalize F[k] = y at *
              by_cases hcy : c ≤ y
              · have hd3 : decide ((c : Int) ≤ (y : Int)) = true := by simp; omega
                have hd4 : decide (c ≤ y) = true := by simp; omega
                have Hge2 : Hid (∀ j, j < k + 1 → ∀ y, F[j]? = some y → c ≤ y) := fun j hj y2 hy2 => by
                  by_cases e : j = k
                  · subst e; rw [unhide hkF] at hy2; cases hy2; exact hcy
                  · exact unhide Hge j (by omega) y2 hy2
                go_wp2
                go_region
                go_wp2
                go_roundw
                case rel => exact ⟨k + 1, by omega, by go_num, unhide Hge2, unhide Hown2, hgl2, hb2.drew⟩
                case measure => simp [intOf]; omega
              · have hd3 : decide ((c : Int) ≤ (y : Int)) = false := by simp; omega
                have hd4 : decide (c ≤ y) = false := by simp; omega
                have Hfall := hide (fall_put F k c (unhide HF) hk (unhide Hge) (fun y2 hy2 => by rw [unhide hkF] at hy2; cases hy2; omega))
                have Hd := hide (show wr.drew.ownsRow w.heap.size 3 1 (.slice (some ⟨g, 0, none⟩) F.length capl) F.length (natVals F) from unhide Hown2)
                go_wp2
                go_region
                go_wp2_with (at_builtin; refine wpList_app_ints _ rfl (.tmp 42) (.tmp 45) rfl w.heap.size (.slice none 0 0) (.slice (some ⟨g, 0, none⟩) k capl) [] (F.take k) rfl rfl (World.ownsRow_nil _ _ _ _) (src_take (unhide Hd) k capl hk) (by rw [List.length_take]; simp; omega) hb2.size ?_)
                intro v1 w1 hown1 hgr1 hat1
                replace hown1 := own_fix hown1
                have hb3 : Below w.heap.size w w1 := hb2.drew.grown hgr1 hb2.size (fun k e => by simp [Value.ownBlock] at e)
                have c03 := (hb3.cell (p := ⟨b, off + i, none⟩) hll).trans ((hb.cell (p := ⟨b, off + i, none⟩) hll).symm.trans c0)
                have Hl1 := hide ((unhide Hd).kept hgr1 (.inr (by simp [Value.ownBlock])))
                have hvg : Value.ownBlock (.slice (some ⟨g, 0, none⟩) F.length capl) ≠ v1.ownBlock := by
                  intro e
                  rcases hat1 with h | h
                  · rw [h] at e; simp [Value.ownBlock] at e
                  · rw [h] at e
                    have e2 : g = wr.heap.size := by simpa [Value.ownBlock] using e
                    omega
                have Hown1 := hide (hown1.alloc (.cells #[.int .i64 (c : Int)] 3))
                have Hl1a := hide ((unhide Hl1).alloc (.cells #[.int .i64 (c : Int)] 3))
                have hsz1 : (w1.alloc (.cells #[.int .i64 (c : Int)] 3)).heap.size = w1.heap.size + 1 := by simp
                have hlt1 := hown1.lt
                have hFk : (F.take k).length = k := by rw [List.length_take, Nat.min_eq_left hk]
                have HFk := hide hFk
                clear hgr1 hown1 hat1 c02 hFk
                go_wp2_with (at_builtin; refine wpList_app_ints _ rfl (.tmp 47) (.tmp 52) rfl w.heap.size v1 (.slice (some ⟨w1.heap.size, 0, none⟩) 1 1) (F.take k) [c] rfl rfl (unhide Hown1) (src_one (by simp)) (by have := unhide HFk; simp; omega) (by have := hb3.size; rw [hsz1]; omega) ?_)
                intro v2 w2 hown2 hgr2 hat2
                replace hown2 := own_fix hown2
                have hb4 : Below w.heap.size w w2 := (hb3.alloc hb3.size _).grown hgr2 (by have := hb3.size; rw [hsz1]; omega) (fun k e => (hlt1 k e).1)
                have Hl2 := hide ((unhide Hl1a).kept hgr2 (.inr hvg))
                have Hown3 := hide hown2
                clear hgr2 hown2 hat2 hlt1 hsz1 hvg
                go_wp2_with (at_builtin; refine wpList_app_ints _ rfl (.tmp 54) (.tmp 57) rfl w.heap.size v2 (.slice (some ⟨g, k, none⟩) (F.length - k) (capl - k)) (F.take k ++ [c]) (F.drop k) rfl rfl (unhide Hown3) (src_drop (unhide Hl2) k _) (by have := unhide HFk; rw [List.length_append, List.length_drop]; simp; omega) hb4.size ?_)
                intro v3 w3 hown3 hgr3 hat3
                replace hown3 := own_fix hown3
                have hb5 : Below w.heap.size w w3 := hb4.grown hgr3 hb4.size (fun k e => ((unhide Hown3).lt k e).1)
                have Hown4 := hide hown3
                clear hgr3 hown3 hat3
                go_wp2
                go_roundw
                case rel => exact ⟨i + 1, F.take k ++ c :: F.drop k, by omega, by go_num, by have := unhide Hfall; simpa using this, by rw [unhide Hq]; have := (perm_put F k c).trans ((unhide Hperm).append_right [c]); simpa using this, by first | exact unhide Hown4 | (have := unhide Hown4; simpa using this), hb5⟩
                case measure => simp [intOf]; omega
            · have hd1 : decide ((k : Int) < (F.length : Int)) = false := by simp; omega
              have hd2 : decide (k < F.length) = false := by simp; omega
              have Hfall := hide (fall_put F k c (unhide HF) hk (unhide Hge) (fun y2 hy2 => by rw [List.getElem?_eq_none (by omega)] at hy2; cases hy2))
              have hkk : F.length ≤ k := by omega
              by_cases hck : capl = k
              · have hck2 : k = capl := hck.symm
                subst hck2
                clear hck
                have Hd := hide (show wr.drew.ownsRow w.heap.size 3 1 (.slice (some ⟨g, 0, none⟩) F.length k) F.length (natVals F) from unhide Hown2)
                go_wp2
                go_region
                go_wp2_with (at_builtin; refine wpList_app_ints _ rfl (.tmp 42) (.tmp 45) rfl w.heap.size (.slice none 0 0) (.slice (some ⟨g, 0, none⟩) k k) [] (F.take k) rfl rfl (World.ownsRow_nil _ _ _ _) (src_take (unhide Hd) k k hk) (by rw [List.length_take]; simp; omega) hb2.size ?_)
                intro v1 w1 hown1 hgr1 hat1
                replace hown1 := own_fix hown1
                have hb3 : Below w.heap.size w w1 := hb2.drew.grown hgr1 hb2.size (fun k e => by simp [Value.ownBlock] at e)
                have c03 := (hb3.cell (p := ⟨b, off + i, none⟩) hll).trans ((hb.cell (p := ⟨b, off + i, none⟩) hll).symm.trans c0)
                have Hl1 := hide ((unhide Hd).kept hgr1 (.inr (by simp [Value.ownBlock])))
                have hvg : Value.ownBlock (.slice (some ⟨g, 0, none⟩) F.length k) ≠ v1.ownBlock := by
                  intro e
                  rcases hat1 with h | h
                  · rw [h] at e; simp [Value.ownBlock] at e
                  · rw [h] at e
                    have e2 : g = wr.heap.size := by simpa [Value.ownBlock] using e
                    omega
                have Hown1 := hide (hown1.alloc (.cells #[.int .i64 (c : Int)] 3))
                have Hl1a := hide ((unhide Hl1).alloc (.cells #[.int .i64 (c : Int)] 3))
                have hsz1 : (w1.alloc (.cells #[.int .i64 (c : Int)] 3)).heap.size = w1.heap.size + 1 := by simp
                have hlt1 := hown1.lt
                have hFk : (F.take k).length = k := by rw [List.length_take, Nat.min_eq_left hk]
                have HFk := hide hFk
                clear hgr1 hown1 hat1 c02 hFk
                go_wp2_with (at_builtin; refine wpList_app_ints _ rfl (.tmp 47) (.tmp 52) rfl w.heap.size v1 (.slice (some ⟨w1.heap.size, 0, none⟩) 1 1) (F.take k) [c] rfl rfl (unhide Hown1) (src_one (by simp)) (by have := unhide HFk; simp; omega) (by have := hb3.size; rw [hsz1]; omega) ?_)
                intro v2 w2 hown2 hgr2 hat2
                replace hown2 := own_fix hown2
                have hb4 : Below w.heap.size w w2 := (hb3.alloc hb3.size _).grown hgr2 (by have := hb3.size; rw [hsz1]; omega) (fun k e => (hlt1 k e).1)
                have Hl2 := hide ((unhide Hl1a).kept hgr2 (.inr hvg))
                have Hown3 := hide hown2
                clear hgr2 hown2 hat2 hlt1 hsz1 hvg
                go_wp2_with (at_builtin; refine wpList_app_ints _ rfl (.tmp 54) (.tmp 57) rfl w.heap.size v2 _ (F.take k ++ [c]) (F.drop k) rfl rfl (unhide Hown3) (src_end _ _ F k _ hkk) (by have := unhide HFk; rw [List.length_append, List.length_drop]; simp; omega) hb4.size ?_)
                intro v3 w3 hown3 hgr3 hat3
                replace hown3 := own_fix hown3
                have hb5 : Below w.heap.size w w3 := hb4.grown hgr3 hb4.size (fun k e => ((unhide Hown3).lt k e).1)
                have Hown4 := hide hown3
                clear hgr3 hown3 hat3
                go_wp2
                go_roundw
                case rel => exact ⟨i + 1, F.take k ++ c :: F.drop k, by omega, by go_num, by have := unhide Hfall; simpa using this, by rw [unhide Hq]; have := (perm_put F k c).trans ((unhide Hperm).append_right [c]); simpa using this, by first | exact unhide Hown4 | (have := unhide Hown4; simpa using this), hb5⟩
                case measure => simp [intOf]; omega
              · have hckn : k < capl := by omega
                have Hd := hide (show wr.drew.ownsRow w.heap.size 3 1 (.slice (some ⟨g, 0, none⟩) F.length capl) F.length (natVals F) from unhide Hown2)
                go_wp2
                go_region
                go_wp2_with (at_builtin; refine wpList_app_ints _ rfl (.tmp 42) (.tmp 45) rfl w.heap.size (.slice none 0 0) (.slice (some ⟨g, 0, none⟩) k capl) [] (F.take k) rfl rfl (World.ownsRow_nil _ _ _ _) (src_take (unhide Hd) k capl hk) (by rw [List.length_take]; simp; omega) hb2.size ?_)
                intro v1 w1 hown1 hgr1 hat1
                replace hown1 := own_fix hown1
                have hb3 : Below w.heap.size w w1 := hb2.drew.grown hgr1 hb2.size (fun k e => by simp [Value.ownBlock] at e)
                have c03 := (hb3.cell (p := ⟨b, off + i, none⟩) hll).trans ((hb.cell (p := ⟨b, off + i, none⟩) hll).symm.trans c0)
                have Hl1 := hide ((unhide Hd).kept hgr1 (.inr (by simp [Value.ownBlock])))
                have hvg : Value.ownBlock (.slice (some ⟨g, 0, none⟩) F.length capl) ≠ v1.ownBlock := by
                  intro e
                  rcases hat1 with h | h
                  · rw [h] at e; simp [Value.ownBlock] at e
                  · rw [h] at e
                    have e2 : g = wr.heap.size := by simpa [Value.ownBlock] using e
                    omega
                have Hown1 := hide (hown1.alloc (.cells #[.int .i64 (c : Int)] 3))
                have Hl1a := hide ((unhide Hl1).alloc (.cells #[.int .i64 (c : Int)] 3))
                have hsz1 : (w1.alloc (.cells #[.int .i64 (c : Int)] 3)).heap.size = w1.heap.size + 1 := by simp
                have hlt1 := hown1.lt
                have hFk : (F.take k).length = k := by rw [List.length_take, Nat.min_eq_left hk]
                have HFk := hide hFk
                clear hgr1 hown1 hat1 c02 hFk
                go_wp2_with (at_builtin; refine wpList_app_ints _ rfl (.tmp 47) (.tmp 52) rfl w.heap.size v1 (.slice (some ⟨w1.heap.size, 0, none⟩) 1 1) (F.take k) [c] rfl rfl (unhide Hown1) (src_one (by simp)) (by have := unhide HFk; simp; omega) (by have := hb3.size; rw [hsz1]; omega) ?_)
                intro v2 w2 hown2 hgr2 hat2
                replace hown2 := own_fix hown2
                have hb4 : Below w.heap.size w w2 := (hb3.alloc hb3.size _).grown hgr2 (by have := hb3.size; rw [hsz1]; omega) (fun k e => (hlt1 k e).1)
                have Hl2 := hide ((unhide Hl1a).kept hgr2 (.inr hvg))
                have Hown3 := hide hown2
                clear hgr2 hown2 hat2 hlt1 hsz1 hvg
                go_wp2_with (at_builtin; refine wpList_app_ints _ rfl (.tmp 54) (.tmp 57) rfl w.heap.size v2 _ (F.take k ++ [c]) (F.drop k) rfl rfl (unhide Hown3) (src_end _ _ F k _ hkk) (by have := unhide HFk; rw [List.length_append, List.length_drop]; simp; omega) hb4.size ?_)
                intro v3 w3 hown3 hgr3 hat3
                replace hown3 := own_fix hown3
                have hb5 : Below w.heap.size w w3 := hb4.grown hgr3 hb4.size (fun k e => ((unhide Hown3).lt k e).1)
                have Hown4 := hide hown3
                clear hgr3 hown3 hat3
                go_wp2
                go_roundw
                case rel => exact ⟨i + 1, F.take k ++ c :: F.drop k, by omega, by go_num, by have := unhide Hfall; simpa using this, by rw [unhide Hq]; have := (perm_put F k c).trans ((unhide Hperm).append_right [c]); simpa using this, by first | exact unhide Hown4 | (have := unhide Hown4; simpa using this), hb5⟩
                case measure => simp [intOf]; omega
    · have : i = len := by omega
      subst this
      have hdi : decide ((i : Int) < (i : Int)) = false := by simp
      have Hord := hide (ord_rev F hF)
      have Hrp := hide ((List.reverse_perm F).trans hperm)
      have hbnd : ∀ x ∈ F, x ≤ 1048576 := fun x hx => by
        have hx2 := hperm.subset hx
        unfold posOf at hx2
        obtain ⟨j, hj, rfl⟩ := List.mem_map.1 (List.mem_filter.1 hx2).1
        exact (unhide Hz j (List.mem_range.1 hj)).2
      have hsum : F.sum ≤ 314572800 := by
        have := sum_le F 1048576 hbnd
        have := Nat.mul_le_mul_right 1048576 (show F.length ≤ 300 by omega)
        omega
      have hrl : F.reverse.length = F.length := List.length_reverse
      have hrs : F.reverse.sum = F.sum := (List.reverse_perm F).sum_nat
      have Hown := hide hown
      clear hF hperm hbnd hown
      by_cases h0 : F.length = 0
      · have hF0 : F = [] := List.length_eq_zero_iff.1 h0
        subst hF0
        rcases own_val (unhide Hown) with ⟨rfl, _⟩ | ⟨g, capl, rfl, hg, hgl, hcl⟩
        · go_wp2
          go_ret
          exact ⟨[], List.Pairwise.nil, unhide Hrp, rfl, hb⟩
        · go_wp2
          go_ret
          exact ⟨[], List.Pairwise.nil, unhide Hrp, rfl, hb⟩
      have e0 : ((F.length : Int) == 0) = false := by rw [beq_eq_false_iff_ne]; omega
      rcases own_val (unhide Hown) with ⟨rfl, hFn⟩ | ⟨g, capl, rfl, hg, hgl, hcl⟩
      · rw [hFn] at h0; exact absurd rfl h0
      by_cases h1 : F.length = 1
      · have e1 : ((F.length : Int) == 1) = true := by rw [beq_iff_eq]; omega
        have cl := own_cell (unhide Hown) 0 (by omega)
        have hs1 := sum_one F h1
        have hli : (0 : Int) < (F.length : Int) := by omega
        have Hres := hide (show (if F.reverse.length = 0 then 0 else if F.reverse.length = 1 then F.reverse.sum else bst F.reverse F.reverse.length M 0 2) = F[0] by rw [hrl, if_neg h0, if_pos h1, hrs, hs1])
        generalize F[0] = y at *
        clear hrl hrs hs1 h0 h1
        go_wp2
        go_ret
        exact ⟨F.reverse, unhide Hord, unhide Hrp, ret_int (by rw [unhide Hres]), hb⟩
      have e1 : ((F.length : Int) == 1) = false := by rw [beq_eq_false_iff_ne]; omega
      have hn2 : 2 ≤ F.length := by omega
      have Hres := hide (show (if F.reverse.length = 0 then 0 else if F.reverse.length = 1 then F.reverse.sum else bst F.reverse F.reverse.length M 0 2) = bst F.reverse F.length M 0 2 by rw [hrl, if_neg h0, if_neg h1])
      have hrs2 : F.reverse.sum ≤ 1073741824 := by omega
      have Hrs := hide hrs2
      clear hrl hrs h0 h1 hrs2
      obtain ⟨N1, hN1⟩ : ∃ N1, N1 = F.length + 1 := ⟨_, rfl⟩
      have hN1i : (F.length : Int) + 1 = (N1 : Int) := by omega
      have HN1 := hide hN1
      have hN1b : N1 ≤ 301 := by omega
      obtain ⟨y1, hy1⟩ : ∃ y, y = (M + 2) * N1 := ⟨_, rfl⟩
      have hy1i : ((M : Int) + 2) * (N1 : Int) = (y1 : Int) := by rw [hy1, Int.natCast_mul]; rfl
      have hy1b : y1 ≤ 6000 := by rw [hy1]; have := Nat.mul_le_mul (show M + 2 ≤ 17 by omega) hN1b; omega
      obtain ⟨K, hK⟩ : ∃ y, y = y1 * N1 := ⟨_, rfl⟩
      have hKi : (y1 : Int) * (N1 : Int) = (K : Int) := by rw [hK, Int.natCast_mul]
      have hKb : K ≤ 2000000 := by rw [hK]; have := Nat.mul_le_mul hy1b hN1b; omega
      have HKe : Hid (K = (M + 2) * (F.length + 1) * (F.length + 1)) := by show K = _; rw [hK, hy1, hN1]
      have hmk1 := run_make_row' (P := Tryd.prog) 41 3 (.int .i64 0) 8 Tryd.underlying41 info_i64 rfl .i64 .i64 N1 (by omega) (by omega)
      have hmk2 := run_make_row' (P := Tryd.prog) 41 3 (.int .i64 0) 8 Tryd.underlying41 info_i64 rfl .i64 .i64 K (by omega) (by omega)
      have hr0 := made_own wr N1 (by omega)
      rw [← intVals_congr N1 (fun j _ => restz_last F j)] at hr0
      have hba : Below wr.heap.size wr (wr.alloc (.cells (madeCells #[.int .i64 0] N1) 3)) := (Below.refl _ _).alloc (Nat.le_refl _) _
      have Hr0 := hide hr0
      have Hl0 := hide (own_keep (unhide Hown) hba)
      have hb1 := hb.trans (hba.mono hb.size)
      have hsz1 : (wr.alloc (.cells (madeCells #[.int .i64 0] N1) 3)).heap.size = wr.heap.size + 1 := by simp
      have Hmk2 := hide hmk2
      have hgr : g ≠ wr.heap.size := by omega
      have hbs := hb.size
      clear hr0 hba hK hy1 hN1 hmk2
      go_wp2
      clear hmk1
      generalize hW1 : wr.alloc (.cells (madeCells #[.int .i64 0] N1) 3) = w1 at *
      clear hW1
      generalize wr.heap.size = gr at *
      go_loopw [10] (fun iv wq => ∃ k : Nat, k ≤ F.length ∧ iv = .int .i64 ((k : Int) - 1) ∧ wq.ownsRow gr 3 1 (.slice (some ⟨gr, 0, none⟩) N1 N1) N1 (intVals (restz F k) N1) ∧ wq.ownsRow w.heap.size 3 1 (.slice (some ⟨g, 0, none⟩) F.length capl) F.length (natVals F) ∧ Below w.heap.size w wq ∧ wq.heap.size = gr + 1) (fun iv _ => (intOf iv + 1).toNat)
      case atStart => exact ⟨F.length, by omega, rfl, unhide Hr0, unhide Hl0, hb1, hsz1⟩
      case round =>
        obtain ⟨k, hk, rfl, hrk, hlk, hbk, hsk⟩ := hrel
        by_cases hk0 : k = 0
        · subst hk0
          have hd0 : decide ((0 : Int) ≤ ((0 : Nat) : Int) - 1) = false := by decide
          have hmk2 := unhide Hmk2
          have hk1 := made_own wr K (by omega)
          rw [intVals_congr K (fun x _ => (show (0 : Int) = tabz 0 x from by unfold tabz; rw [if_neg (by omega)]))] at hk1
          have hba : Below wr.heap.size wr (wr.alloc (.cells (madeCells #[.int .i64 0] K) 3)) := (Below.refl _ _).alloc (Nat.le_refl _) _
          have Hk1 := hide hk1
          have Hr1 := hide (own_keep hrk hba)
          have hb2 := hbk.trans (hba.mono hbk.size)
          have hsz2 : (wr.alloc (.cells (madeCells #[.int .i64 0] K) 3)).heap.size = gr + 2 := by simp [hsk]
          rw [hsk] at Hk1
          clear hk1 hba hrk hlk
          go_wp2
          clear hmk2
          generalize hW2 : wr.alloc (.cells (madeCells #[.int .i64 0] K) 3) = w2 at *
          clear hW2
          go_loopw [12] (fun iv wq => ∃ j : Nat, j ≤ K ∧ iv = .int .i64 j ∧ wq.ownsRow (gr + 1) 3 1 (.slice (some ⟨gr + 1, 0, none⟩) K K) K (intVals (tabz j) K) ∧ wq.ownsRow gr 3 1 (.slice (some ⟨gr, 0, none⟩) N1 N1) N1 (intVals (restz F 0) N1) ∧ Below w.heap.size w wq ∧ wq.heap.size = gr + 2) (fun iv _ => K - (intOf iv).toNat)
          case atStart => exact ⟨0, by omega, rfl, unhide Hk1, unhide Hr1, hb2, hsz2⟩
          case round =>
            obtain ⟨j, hj, rfl, hkj, hrj, hbj, hsj⟩ := hrel
            by_cases hjK : j < K
            · have hdj : decide ((j : Int) < (K : Int)) = true := by simp; omega
              have m2 := own_int hkj j hjK
              have m3 := hkj.frozenAt j
              have hjKi : (j : Int) < (K : Int) := by omega
              have hst := hkj.stored j (.int .i64 (-1))
              rw [intVals_set _ _ _ _ hjK, intVals_congr K (fun x _ => tabz_step j x)] at hst
              have Hst := hide hst.1
              have Hr := hide (hrj.kept hst.2 (.inr (by simp [Value.ownBlock])))
              clear hst hkj hrj
              go_wp2
              go_roundw
              case rel => exact ⟨j + 1, by omega, by go_num, unhide Hst, unhide Hr, hbj.setCell (by show _ ≤ gr + 1; omega) _, by simpa [World.setCell] using hsj⟩
              case measure => simp [intOf]; omega
            · have : j = K := by omega
              subst this
              have hdj : decide ((j : Int) < (j : Int)) = false := by simp
              have hnew : CAt (wr.alloc (.cells #[.slice (some ⟨gr, 0, none⟩) N1 N1, .int .i64 (M : Int), .slice (some ⟨gr + 1, 0, none⟩) j j] 79)) (gr + 2) gr (gr + 1) F.length M j F.reverse := by
                have hba : Below wr.heap.size wr (wr.alloc (.cells #[.slice (some ⟨gr, 0, none⟩) N1 N1, .int .i64 (M : Int), .slice (some ⟨gr + 1, 0, none⟩) j j] 79)) := (Below.refl _ _).alloc (Nat.le_refl _) _
                have hr2 := own_keep hrj hba
                have hk2 := own_keep hkj hba
                have hc : ∀ x, (wr.alloc (.cells #[.slice (some ⟨gr, 0, none⟩) N1 N1, .int .i64 (M : Int), .slice (some ⟨gr + 1, 0, none⟩) j j] 79)).cell? ⟨gr + 2, x, none⟩ = (#[Value.slice (some ⟨gr, 0, none⟩) N1 N1, .int .i64 (M : Int), .slice (some ⟨gr + 1, 0, none⟩) j j] : Array Value)[x]? := fun x => by
                  rw [← hsj]; exact World.cell?_alloc_mark _ _ _ _ _
                have hN := unhide HN1
                refine ⟨by rw [hc, hN]; rfl, by rw [hc]; rfl, by rw [hc]; rfl, fun x hx => ?_, fun x hx => ⟨-1, ?_, .inl rfl⟩, fun x hx => hk2.frozenAt x, by omega, by omega⟩
                · rw [own_int hr2 x (by omega), pre_rev F x hx]
                  unfold restz
                  rw [if_pos (Nat.zero_le _)]
                · rw [own_int hk2 x hx]
                  unfold tabz
                  rw [if_pos hx]
              have hb3 : Below w.heap.size w (wr.alloc (.cells #[.slice (some ⟨gr, 0, none⟩) N1 N1, .int .i64 (M : Int), .slice (some ⟨gr + 1, 0, none⟩) j j] 79)) := hbj.alloc hbj.size _
              have Hnew := hide hnew
              clear hnew hkj hrj
              have Hcall : Hid (Calls Tryd.prog 44 #[.pointer (some ⟨gr + 2, 0, none⟩), .int .i64 1, .int .i64 0, .int .i64 2] (wr.alloc (.cells #[.slice (some ⟨gr, 0, none⟩) N1 N1, .int .i64 (M : Int), .slice (some ⟨gr + 1, 0, none⟩) j j] 79)) fun e w' => e = .returned (.int .i64 (bst F.reverse F.length M 0 2 : Nat)) ∧ CAt w' (gr + 2) gr (gr + 1) F.length M j F.reverse ∧ Only (gr + 1) (wr.alloc (.cells #[.slice (some ⟨gr, 0, none⟩) N1 N1, .int .i64 (M : Int), .slice (some ⟨gr + 1, 0, none⟩) j j] 79)) w') :=
                best_any F.reverse F.length M j (gr + 2) gr (gr + 1) (unhide HKe) (unhide Hrs) (by omega) hM M 1 0 2 _ (by omega) (by omega) (by omega) (by omega) (unhide Hnew)
              go_wp2_with fail
              refine (unhide Hcall).mono ?_; rintro e w5 ⟨rfl, _, hO⟩
              have hb5 : Below w.heap.size w w5 := hb3.trans ⟨hO.os, hO.tape, hO.output, Nat.le_of_eq hO.size.symm, fun x hx => hO.block x (by omega)⟩
              clear Hcall hO
              generalize bst F.reverse F.length M 0 2 = B at *
              go_wp2
              go_ret
              exact ⟨F.reverse, unhide Hord, unhide Hrp, ret_int (by rw [unhide Hres]), hb5⟩
        · obtain ⟨j, rfl⟩ : ∃ j, k = j + 1 := ⟨k - 1, by omega⟩
          have hji : ((j + 1 : Nat) : Int) - 1 = (j : Int) := by omega
          rw [hji]
          have hd0 : decide ((0 : Int) ≤ (j : Int)) = true := by simp
          have m1 := own_int hrk (j + 1) (by have := unhide HN1; omega)
          have m2 := own_int hrk j (by have := unhide HN1; omega)
          have m3 := hrk.frozenAt j
          have m4 := own_cell hlk j (by omega)
          have hds := drop_sum F j (by omega)
          have hdl := drop_le F (j + 1)
          have e5 : restz F (j + 1) (j + 1) = ((F.drop (j + 1)).sum : Nat) := by unfold restz; rw [if_pos (Nat.le_refl _)]
          rw [e5] at m1
          have hst := hrk.stored j (.int .i64 ((F.drop j).sum : Nat))
          rw [intVals_set _ _ _ _ (by have := unhide HN1; omega), intVals_congr N1 (fun x _ => restz_step F j x)] at hst
          have Hst := hide hst.1
          have Hl := hide (hlk.kept hst.2 (.inr (by simpa [Value.ownBlock] using hgr)))
          have hjN : (j : Int) + 1 < (N1 : Int) := by have := unhide HN1; omega
          have hjN0 : (j : Int) < (N1 : Int) := by omega
          have hjF : (j : Int) < (F.length : Int) := by omega
          rw [hds, Nat.add_comm F[j], Int.natCast_add] at Hst Hl
          have hFb := hide hsum
          have hyb : F[j] ≤ F.sum := by have := drop_le F j; omega
          generalize F[j] = y at *
          generalize (F.drop (j + 1)).sum = s at *
          clear hst hds e5 hrk hlk hk0
          go_wp2
          go_region
          go_wp2
          go_roundw
          case rel => exact ⟨j, by omega, by go_num, (unhide Hst).drew, (unhide Hl).drew, (hbk.setCell (by show _ ≤ gr; omega) _).drew, by simpa [World.setCell] using hsk⟩
          case measure => simp [intOf]
end Go.Proofs.YtogpkpjdipeiiabDoor
