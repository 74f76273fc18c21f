/- PastGoes: any past of numbers goes as two stacks do. -/
import Derived.Test.YtkdckcengmkhhajDoorPa3
import Derived.Test.YtkdckcengmkhhajDoorPa4
import Derived.Test.YtkdckcengmkhhajDoorPst
import Derived.Test.YtkdckcengmkhhajDoorCoded3
namespace Go.Proofs.YtkdckcengmkhhajDoor
open Go.RowKit

theorem nil_or_snoc (l : List Int) : l = [] ∨ ∃ a x, l = a ++ [x] := by
  rcases List.eq_nil_or_concat l with h | ⟨a, x, h⟩
  · exact .inl h
  · exact .inr ⟨a, x, by rw [h, List.concat_eq_append]⟩

theorem steps_at {w : World} {s : Option Addr} {n : Nat} {k x : Nat → Int} (h : IsSteps w s n k x) (i : Nat) (hi : i < n) : ∃ b off, s = some ⟨b, off, none⟩ ∧ n ≤ maxLen ∧ w.cell? ⟨b, off + i * 2, none⟩ = some (.int .i64 (k i)) ∧ w.cell? ⟨b, off + i * 2 + 1, none⟩ = some (.int .i64 (x i)) ∧ b < w.heap.size := by
  rcases h with h | ⟨b, off, ha, hl, h⟩
  · omega
  · exact ⟨b, off, ha, hl, (h i hi).1, (h i hi).2, World.block_lt_of_cell? _ _ (h i hi).1⟩

set_option maxHeartbeats 1000000 in
set_option maxRecDepth 100000 in
theorem pastGoes_no (start most : Int) (s : Option Addr) (n c : Nat) (w : World) (a : Nat → Addr) (hS : Sent w a) (hn : n ≤ 200) (hm : most < 0 ∨ 20 < most) :
    Calls Tryd.prog 6 #[.int .i64 start, .int .i64 most, .slice s n c] w fun e w' => e = .returned (.bool true) ∧ Below w.heap.size w w' := by
  have HS := hide hS
  have HM := hide hm
  have dn : decide ((n : Int) > 200) = false := by simp; omega
  have dn2 : decide ((200 : Int) < (n : Int)) = false := by simp; omega
  have d : (decide (most < 0) = true ∧ True) ∨ (decide (most < 0) = false ∧ decide (most > 20) = true ∧ decide (20 < most) = true) := by
    by_cases h : most < 0
    · exact .inl ⟨decide_eq_true h, trivial⟩
    · exact .inr ⟨decide_eq_false h, decide_eq_true (by omega), decide_eq_true (by omega)⟩
  clear hS hm
  go_enter Tryd.func6, Tryd.ntmps6
  go_wp2_with fail
  refine (first_any _).mono ?_
  rintro e w1 ⟨rfl, hb1⟩
  have hs1 := hb1.size
  have HS1 := hide ((unhide HS).below hb1)
  have HB1 := hide hb1
  clear HS hb1
  go_wp2_with fail
  refine (pnew_no start most _ _ _ (unhide HM) ((unhide HS1).cell 1 (by omega))).mono ?_
  rintro e w2 ⟨rfl, hb2⟩
  have HS2 := hide ((unhide HS1).below hb2)
  have HB2 := hide ((unhide HB1).trans (hb2.mono hs1))
  have hs2 := (unhide HB2).size
  clear HS1 HB1 hb2
  rcases d with ⟨d0, _⟩ | ⟨d0, d1, d2⟩
  all_goals
    go_wp2_with fail
    refine (coded3_sent 1 2 _ a (unhide HS2) (by omega) rfl).mono ?_
    rintro e w3 ⟨rfl, hb3⟩
    have HB3 := hide ((unhide HB2).trans (hb3.mono hs2))
    clear hb3
    go_wp2
    go_ret
    exact ⟨rfl, unhide HB3⟩

/-- What stands at each round. -/
def Rnd (w0 wr : World) (q most n : Nat) (r nw bv av i : Value) (j : Nat) : Prop :=
  ∃ g c now sb cb bl sa ca al, r = .bool false ∧ nw = .int .i64 now ∧ bv = .slice sb bl.length cb ∧ av = .slice sa al.length ca ∧ i = .int .i64 (j : Int) ∧ j ≤ n ∧ PSt w0 wr q g c most (bl ++ now :: al.reverse) bl.length sb cb bl sa ca al ∧ bl.length + al.length ≤ most


set_option maxHeartbeats 8000000 in
set_option maxRecDepth 100000 in
theorem pastGoes_yes (start : Int) (most : Nat) (s : Option Addr) (n c : Nat) (ks xs : Nat → Int) (w : World) (hL : IsSteps w s n ks xs) (hn : n ≤ 200) (hm : most ≤ 20) :
    Calls Tryd.prog 6 #[.int .i64 start, .int .i64 (most : Int), .slice s n c] w fun e w' => e = .returned (.bool true) ∧ Below w.heap.size w w' := by
  have HL := hide hL
  have dn : decide ((n : Int) > 200) = false := by simp; omega
  have dn2 : decide ((200 : Int) < (n : Int)) = false := by simp; omega
  have d0 : decide ((most : Int) < 0) = false := by simp
  have d1 : decide ((most : Int) > 20) = false := by simp; omega
  have d2 : decide ((20 : Int) < (most : Int)) = false := by simp; omega
  clear hL
  go_enter Tryd.func6, Tryd.ntmps6
  go_wp2_with fail
  refine (first_any _).mono ?_
  rintro e w1 ⟨rfl, hb1⟩
  have hs1 := hb1.size
  have HB1 := hide hb1
  clear hb1
  go_wp2_with fail
  refine (pnew_yes start most _ hm).mono ?_
  rintro e w2 ⟨rfl, hP, hb2⟩
  have HP0 : Hid (PSt w w2 (w1.heap.size + 1) w1.heap.size 1 most ([] ++ start :: ([] : List Int).reverse) ([] : List Int).length none 0 [] none 0 []) :=
    ⟨⟨hP.box, hP.row, by omega, by omega, hP.ne, hP.le, hP.lt⟩, stk_nil _ _, stk_nil _ _, fun _ e => (by cases e), fun _ e => (by cases e), fun _ e _ => (by cases e), (unhide HB1).trans (hb2.mono hs1)⟩
  clear hb2 hP
  generalize hq : w1.heap.size + 1 = q at *
  clear hq
  go_wp2
  go_loopw [6, 10, 11, 12, 13] (fun r nw bv av i wr => ∃ j, Hid (Rnd w wr q most n r nw bv av i j)) (fun _ _ _ _ i _ => n - (intOf i).toNat)
  case atStart => exact ⟨0, _, _, start, none, 0, [], none, 0, [], rfl, rfl, rfl, rfl, rfl, by omega, unhide HP0, by simp⟩
  case round =>
    obtain ⟨j, hR⟩ := hrel
    obtain ⟨g, cl, now, sb, cb, bl, sa, ca, al, rfl, rfl, rfl, rfl, rfl, hj, hP, hba⟩ := unhide hR
    clear hR HP0
    have HP := hide hP
    have lZ : (bl ++ now :: al.reverse).length = bl.length + 1 + al.length := by simp; omega
    clear hP
    by_cases hjn : j < n
    · obtain ⟨b, off, rfl, hlm, e0w, e1w, hbl⟩ := steps_at (unhide HL) j hjn
      have e0 := ((unhide HP).bel.cell (p := ⟨b, off + j * 2, none⟩) hbl).trans e0w
      have e1 := ((unhide HP).bel.cell (p := ⟨b, off + j * 2 + 1, none⟩) hbl).trans e1w
      have hle := (unhide HP).stb.le
      have hla := (unhide HP).sta.le
      unfold maxLen at hle hla hlm
      have HE := hide e1w
      clear e0w e1w
      have dj : decide ((j : Int) < (n : Int)) = true := by simp; exact hjn
      have hjj : (j : Int) < (n : Int) := by omega
      by_cases k0 : ks j = 0
      · rw [k0] at e0
        go_wp2_with fail
        refine (ps_do (unhide HP) (by rw [lZ]; omega) hm (xs j)).mono ?_
        rintro e wu ⟨rfl, g2, c2, hPu⟩
        have eT : (bl ++ now :: al.reverse).take (bl.length + 1) = bl ++ [now] := by
          rw [List.take_append, List.take_of_length_le (by omega), show bl.length + 1 - bl.length = 1 by omega]
          rfl
        rw [eT] at hPu
        have HP1 := hide hPu
        clear hPu HP eT e1

        have HAl := hide ((unhide HP1).alloc (.cells #[.int .i64 now] 3))
        have hcl : (wu.alloc (.cells #[.int .i64 now] 3)).cell? ⟨wu.heap.size, 0, none⟩ = some (.int .i64 now) := blk_cell (heap_alloc_new wu _) 0
        have HCl := hide hcl
        clear hcl

        go_wp2_with (at_builtin; refine wpList_pushB rfl (.tmp 72) (.tmp 74) rfl _ now (unhide HAl) rfl rfl (unhide HCl) (by omega) ?_)
        intro s1 c1 w3 hP3
        have e1 := (hP3.bel.cell (p := ⟨b, off + j * 2 + 1, none⟩) hbl).trans (unhide HE)
        have hle1 := hP3.stb.le
        rw [List.length_append, List.length_singleton] at hle1
        unfold maxLen at hle1
        clear HP1 HAl HCl
        by_cases hgt : bl.length + 1 > most
        · have dm : decide (((bl.length + 1 : Nat) : Int) > (most : Int)) = true := decide_eq_true (by omega)
          have dm2 : decide ((most : Int) < ((bl.length + 1 : Nat) : Int)) = true := decide_eq_true (by omega)
          obtain ⟨y, t, hyt⟩ : ∃ y t, bl ++ [now] = y :: t := by
            cases bl with
            | nil => exact ⟨now, [], rfl⟩
            | cons y t => exact ⟨y, t ++ [now], rfl⟩
          have hlt : bl.length = t.length := by
            have h1 := congrArg List.length hyt
            simp at h1
            exact h1
          rw [hyt, show bl.length + 1 - most = 1 by omega, show bl.length + 1 - 1 = t.length by omega] at hP3
          obtain ⟨g1, o1, s2, rfl, hs2, hP4⟩ := hP3.dropB
          have HPx : Hid (PSt w w3 q g2 c2 most (t ++ xs j :: List.reverse []) t.length s2 (c1 - 1) t none 0 []) := hP4
          clear hP3 hP4
          have htm : t.length ≤ most := by omega
          have l00 : ([] : List Int).length = 0 := rfl
          rw [hlt] at dm dm2 hle1 ⊢
          by_cases hc1 : c1 = 1
          · rw [if_pos hc1] at hs2
            subst hs2 hc1
            obtain rfl : t = [] := List.eq_nil_of_length_eq_zero (by omega)
            have lZ2 : (([] : List Int) ++ (xs j) :: List.reverse ([] : List Int)).length = ([] : List Int).length + 1 + (([] : List Int).length) := by simp; try omega
            go_wp2_with fail
            refine (ps_kept (unhide HPx) (by rw [lZ2]; omega) (([] : List Int).length) (by rw [lZ2])).mono ?_
            rintro e wk ⟨rfl, hPk⟩
            have HPk := hide hPk
            clear hPk HPx
            go_wp2_with fail
            refine (ps_now (unhide HPk) (xs j) (by simp)).mono ?_
            rintro e wn ⟨rfl, hPn⟩
            have HPn := hide hPn
            clear hPn HPk
            go_wp2
            go_roundw
            case rel => exact ⟨j + 1, _, _, (xs j), _, _, [], none, 0, [], rfl, rfl, (by first | rfl | simp), (by first | rfl | simp), by go_num, by omega, unhide HPn, by simp⟩
            case measure => simp [intOf]; omega
          · rw [if_neg hc1] at hs2
            subst hs2
            have lZ2 : (t ++ (xs j) :: List.reverse ([] : List Int)).length = t.length + 1 + (([] : List Int).length) := by simp; try omega
            go_wp2_with fail
            refine (ps_kept (unhide HPx) (by rw [lZ2]; omega) (([] : List Int).length) (by rw [lZ2])).mono ?_
            rintro e wk ⟨rfl, hPk⟩
            have HPk := hide hPk
            clear hPk HPx
            go_wp2_with fail
            refine (ps_now (unhide HPk) (xs j) (by simp)).mono ?_
            rintro e wn ⟨rfl, hPn⟩
            have HPn := hide hPn
            clear hPn HPk
            go_wp2
            go_roundw
            case rel => exact ⟨j + 1, _, _, (xs j), _, _, t, none, 0, [], rfl, rfl, (by first | rfl | simp), (by first | rfl | simp), by go_num, by omega, unhide HPn, by simp at *; omega⟩
            case measure => simp [intOf]; omega
        · have dm : decide (((bl.length + 1 : Nat) : Int) > (most : Int)) = false := decide_eq_false (by omega)
          have dm2 : decide ((most : Int) < ((bl.length + 1 : Nat) : Int)) = false := decide_eq_false (by omega)
          rw [show bl.length + 1 - most = 0 by omega] at hP3
          have l00 : ([] : List Int).length = 0 := rfl
          have HPx : Hid (PSt w w3 q g2 c2 most ((bl ++ [now]) ++ xs j :: List.reverse []) (bl.length + 1) s1 c1 (bl ++ [now]) none 0 []) := hP3
          clear hP3
          have lZ2 : ((bl ++ [now]) ++ (xs j) :: List.reverse ([] : List Int)).length = (bl.length + 1) + 1 + (([] : List Int).length) := by simp; try omega
          go_wp2_with fail
          refine (ps_kept (unhide HPx) (by rw [lZ2]; omega) (([] : List Int).length) (by rw [lZ2])).mono ?_
          rintro e wk ⟨rfl, hPk⟩
          have HPk := hide hPk
          clear hPk HPx
          go_wp2_with fail
          refine (ps_now (unhide HPk) (xs j) (by simp)).mono ?_
          rintro e wn ⟨rfl, hPn⟩
          have HPn := hide hPn
          clear hPn HPk
          go_wp2
          go_roundw
          case rel => exact ⟨j + 1, _, _, (xs j), s1, c1, (bl ++ [now]), none, 0, [], rfl, rfl, (by first | rfl | simp), (by first | rfl | simp), by go_num, by omega, (by have h := unhide HPn; rw [show bl.length + 1 = (bl ++ [now]).length by simp] at h; exact h), by simp at *; omega⟩
          case measure => simp [intOf]; omega
      · by_cases k1 : ks j = 1
        · rw [k1] at e0
          rcases nil_or_snoc bl with rfl | ⟨b1, x, rfl⟩
          · go_wp2_with fail
            refine (ps_undo (unhide HP) (by rw [lZ]; simp at *; omega) false ([] : List Int).length rfl rfl).mono ?_
            rintro e wu ⟨rfl, hPu⟩
            have HPx := hide hPu
            clear hPu HP
            have lZ2 : (([] : List Int) ++ now :: List.reverse al).length = ([] : List Int).length + 1 + (al.length) := by simp; try omega
            go_wp2_with fail
            refine (ps_kept (unhide HPx) (by rw [lZ2]; omega) (al.length) (by rw [lZ2])).mono ?_
            rintro e wk ⟨rfl, hPk⟩
            have HPk := hide hPk
            clear hPk HPx
            go_wp2_with fail
            refine (ps_now (unhide HPk) now (by simp)).mono ?_
            rintro e wn ⟨rfl, hPn⟩
            have HPn := hide hPn
            clear hPn HPk
            go_wp2
            go_roundw
            case rel => exact ⟨j + 1, _, _, now, sb, cb, [], sa, ca, al, rfl, rfl, (by first | rfl | simp), (by first | rfl | simp), by go_num, by omega, unhide HPn, hba⟩
            case measure => simp [intOf]; omega
          · have hbl1 : (b1 ++ [x]).length = b1.length + 1 := by simp
            rw [hbl1] at HP lZ hba hle ⊢
            have dg : decide (((b1.length + 1 : Nat) : Int) > 0) = true := decide_eq_true (by omega)
            have dg2 : decide ((0 : Int) < ((b1.length + 1 : Nat) : Int)) = true := decide_eq_true (by omega)
            go_wp2_with fail
            refine (ps_undo (unhide HP) (by rw [lZ]; omega) true b1.length (decide_eq_true (by omega)) (by omega)).mono ?_
            rintro e wu ⟨rfl, hPu⟩
            have HP1 := hide hPu
            clear hPu HP
            have HAl := hide ((unhide HP1).alloc (.cells #[.int .i64 now] 3))
            have hcl : (wu.alloc (.cells #[.int .i64 now] 3)).cell? ⟨wu.heap.size, 0, none⟩ = some (.int .i64 now) := blk_cell (heap_alloc_new wu _) 0
            have HCl := hide hcl
            clear hcl
            go_wp2_with (at_builtin; refine wpList_pushA rfl (.tmp 97) (.tmp 99) rfl _ now (unhide HAl) rfl rfl (unhide HCl) (by omega) ?_)
            intro s1 c1 w3 hP3
            obtain ⟨⟨g1, o1, rfl, ce⟩, _⟩ := hP3.stb.last
            have HPx : Hid (PSt w w3 q g cl most (b1 ++ x :: List.reverse (al ++ [now])) b1.length (some ⟨g1, o1, none⟩) cb b1 s1 c1 (al ++ [now])) := by
              have h1 := hP3.popB
              have e : b1 ++ x :: List.reverse (al ++ [now]) = b1 ++ x :: now :: al.reverse := by simp
              unfold Hid
              rw [e]
              exact h1
            clear hP3 HP1 HAl HCl
            have lZ2 : (b1 ++ x :: List.reverse (al ++ [now])).length = b1.length + 1 + (al.length + 1) := by simp; try omega
            go_wp2_with fail
            refine (ps_kept (unhide HPx) (by rw [lZ2]; omega) (al.length + 1) (by rw [lZ2])).mono ?_
            rintro e wk ⟨rfl, hPk⟩
            have HPk := hide hPk
            clear hPk HPx
            go_wp2_with fail
            refine (ps_now (unhide HPk) x (by simp)).mono ?_
            rintro e wn ⟨rfl, hPn⟩
            have HPn := hide hPn
            clear hPn HPk
            go_wp2
            go_roundw
            case rel => exact ⟨j + 1, _, _, x, _, cb, b1, s1, c1, (al ++ [now]), rfl, rfl, (by first | rfl | simp), (by first | rfl | simp), by go_num, by omega, unhide HPn, by simp; omega⟩
            case measure => simp [intOf]; omega
        · by_cases k2 : ks j = 2
          · rw [k2] at e0
            rcases nil_or_snoc al with rfl | ⟨a1, x, rfl⟩
            · go_wp2_with fail
              refine (ps_redo (unhide HP) (by rw [lZ]; simp at *; omega) false bl.length (decide_eq_false (by rw [lZ]; simp)) (if_neg (by rw [lZ]; simp))).mono ?_
              rintro e wu ⟨rfl, hPu⟩
              have HPx := hide hPu
              clear hPu HP
              have lZ2 : (bl ++ now :: List.reverse ([] : List Int)).length = bl.length + 1 + (([] : List Int).length) := by simp; try omega
              go_wp2_with fail
              refine (ps_kept (unhide HPx) (by rw [lZ2]; omega) (([] : List Int).length) (by rw [lZ2])).mono ?_
              rintro e wk ⟨rfl, hPk⟩
              have HPk := hide hPk
              clear hPk HPx
              go_wp2_with fail
              refine (ps_now (unhide HPk) now (by simp)).mono ?_
              rintro e wn ⟨rfl, hPn⟩
              have HPn := hide hPn
              clear hPn HPk
              go_wp2
              go_roundw
              case rel => exact ⟨j + 1, _, _, now, sb, cb, bl, sa, ca, [], rfl, rfl, (by first | rfl | simp), (by first | rfl | simp), by go_num, by omega, unhide HPn, hba⟩
              case measure => simp [intOf]; omega
            · have hal1 : (a1 ++ [x]).length = a1.length + 1 := by simp
              rw [hal1] at lZ hba hla ⊢
              have dg : decide (((a1.length + 1 : Nat) : Int) > 0) = true := decide_eq_true (by omega)
              have dg2 : decide ((0 : Int) < ((a1.length + 1 : Nat) : Int)) = true := decide_eq_true (by omega)
              go_wp2_with fail
              refine (ps_redo (unhide HP) (by rw [lZ]; omega) true (bl.length + 1) (decide_eq_true (by rw [lZ]; omega)) (if_pos (by rw [lZ]; omega))).mono ?_
              rintro e wu ⟨rfl, hPu⟩
              have HP1 := hide hPu
              clear hPu HP
              have HAl := hide ((unhide HP1).alloc (.cells #[.int .i64 now] 3))
              have hcl : (wu.alloc (.cells #[.int .i64 now] 3)).cell? ⟨wu.heap.size, 0, none⟩ = some (.int .i64 now) := blk_cell (heap_alloc_new wu _) 0
              have HCl := hide hcl
              clear hcl
              go_wp2_with (at_builtin; refine wpList_pushB rfl (.tmp 122) (.tmp 124) rfl _ now (unhide HAl) rfl rfl (unhide HCl) (by omega) ?_)
              intro s1 c1 w3 hP3
              obtain ⟨⟨g1, o1, rfl, ce⟩, _⟩ := hP3.sta.last
              have HPx : Hid (PSt w w3 q g cl most ((bl ++ [now]) ++ x :: List.reverse a1) (bl.length + 1) s1 c1 (bl ++ [now]) (some ⟨g1, o1, none⟩) ca a1) := by
                have h1 := hP3.popA
                have e : (bl ++ [now]) ++ x :: List.reverse a1 = bl ++ now :: x :: a1.reverse := by simp
                unfold Hid
                rw [e]
                exact h1
              clear hP3 HP1 HAl HCl
              have lZ2 : ((bl ++ [now]) ++ x :: List.reverse a1).length = (bl.length + 1) + 1 + (a1.length) := by simp; try omega
              go_wp2_with fail
              refine (ps_kept (unhide HPx) (by rw [lZ2]; omega) (a1.length) (by rw [lZ2])).mono ?_
              rintro e wk ⟨rfl, hPk⟩
              have HPk := hide hPk
              clear hPk HPx
              go_wp2_with fail
              refine (ps_now (unhide HPk) x (by simp)).mono ?_
              rintro e wn ⟨rfl, hPn⟩
              have HPn := hide hPn
              clear hPn HPk
              go_wp2
              go_roundw
              case rel => exact ⟨j + 1, _, _, x, s1, c1, (bl ++ [now]), _, ca, a1, rfl, rfl, (by first | rfl | simp), (by first | rfl | simp), by go_num, by omega, (by have h := unhide HPn; rw [show bl.length + 1 = (bl ++ [now]).length by simp] at h; exact h), by simp; omega⟩
              case measure => simp [intOf]; omega
          · have x0 : (ks j == 0) = false := by simp; exact k0
            have x1 : (ks j == 1) = false := by simp; exact k1
            have x2 : (ks j == 2) = false := by simp; exact k2
            have lZ2 : (bl ++ now :: List.reverse al).length = bl.length + 1 + (al.length) := by simp; try omega
            go_wp2_with fail
            refine (ps_kept (unhide HP) (by rw [lZ2]; omega) (al.length) (by rw [lZ2])).mono ?_
            rintro e wk ⟨rfl, hPk⟩
            have HPk := hide hPk
            clear hPk HP
            go_wp2_with fail
            refine (ps_now (unhide HPk) now (by simp)).mono ?_
            rintro e wn ⟨rfl, hPn⟩
            have HPn := hide hPn
            clear hPn HPk
            go_wp2
            go_roundw
            case rel => exact ⟨j + 1, _, _, now, sb, cb, bl, sa, ca, al, rfl, rfl, (by first | rfl | simp), (by first | rfl | simp), by go_num, by omega, unhide HPn, hba⟩
            case measure => simp [intOf]; omega
    · have dj : decide ((j : Int) < (n : Int)) = false := by simp; omega
      go_wp2
      go_ret
      exact ⟨rfl, (unhide HP).bel⟩

set_option maxHeartbeats 1000000 in
set_option maxRecDepth 100000 in
theorem pastGoes_any (start most : Int) (s : Option Addr) (n c : Nat) (ks xs : Nat → Int) (w : World) (a : Nat → Addr) (hS : Sent w a) (hL : IsSteps w s n ks xs) :
    Calls Tryd.prog 6 #[.int .i64 start, .int .i64 most, .slice s n c] w fun e w' => e = .returned (.bool true) ∧ Below w.heap.size w w' := by
  by_cases hn : n ≤ 200
  · by_cases hm : most < 0 ∨ 20 < most
    · exact pastGoes_no start most s n c w a hS hn hm
    · obtain ⟨m, rfl⟩ := Int.eq_ofNat_of_zero_le (show 0 ≤ most by omega)
      exact pastGoes_yes start m s n c ks xs w hL hn (by omega)
  · have dn : decide ((n : Int) > 200) = true := by simp; omega
    have dn2 : decide ((200 : Int) < (n : Int)) = true := by simp; omega
    clear hS hL
    go_enter Tryd.func6, Tryd.ntmps6
    go_wp2_with fail
    refine (first_any _).mono ?_
    rintro e w1 ⟨rfl, hb1⟩
    have HB1 := hide hb1
    clear hb1
    go_wp2
    go_ret
    exact ⟨rfl, unhide HB1⟩
end Go.Proofs.YtkdckcengmkhhajDoor
