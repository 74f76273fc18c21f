/- Walk: the lengths of a block's symbols and distances, written: up to what is written. -/
import Derived.Test.YtfeljhikeddodadGreatDoorDy8
import Derived.Test.YtfeljhikeddodadGreatDoorMh10
namespace Go.Proofs.YtfeljhikeddodadGreatDoor
open Go.RowKit Ps Nf Pm Cn

theorem len_steps (l0 : Nat → Nat) (ss : List Sp) (h : ∀ s ∈ ss, s.1 < 19) (h7 : ∀ x, x < 19 → l0 x ≤ 7) : len (ss.flatMap (stpP (word l0 19))) ≤ 14 * ss.length := by
  induction ss with
  | nil => exact Nat.le_refl _
  | cons s ss ih =>
    have h1 := ih (fun x hx => h x (by simp [hx]))
    have h2 := h7 s.1 (h s (by simp))
    have h3 : more s.1 ≤ 7 := by unfold more againBits; (repeat' split) <;> omega
    have e : (s :: ss).flatMap (stpP (word l0 19)) = word l0 19 s.1 :: (s.2, more s.1) :: ss.flatMap (stpP (word l0 19)) := by simp [stpP]
    rw [e, List.length_cons]
    simp only [len, word]
    omega
theorem nV_one (l : List Nat) : ∀ u ∈ nV l, u.oneCell' = true := by
  intro u hu
  obtain ⟨x, _, rfl⟩ := List.mem_map.1 hu
  rfl
theorem own_someD {w : World} {base size n : Nat} {e : TypeId} {v : Value} {xs : List Value} (h : w.ownsRow base e size v n xs) (hn : 0 < n) : ∃ g c, v = .slice (some ⟨g, 0, none⟩) n c ∧ base ≤ g ∧ g < w.heap.size ∧ n ≤ c ∧ c ≤ maxLen ∧ ∀ j u, xs[j]? = some u → w.cell? ⟨g, j, none⟩ = some u := by
  rcases h.2 with ⟨_, q⟩ | ⟨g, c, cur, rfl, hg, hh, hnc, hcm, _⟩
  · omega
  · have hin := own_inS h g rfl
    refine ⟨g, c, rfl, hg, hin.2, hnc, hcm, fun j u hu => ?_⟩
    have := h.cells (g := g) rfl j u hu
    rwa [addr_add, Nat.zero_add] at this
theorem ordL_getD (l : Nat → Nat) (n j : Nat) (h : j < n) : (ordL l n).getD j 0 = l (order.getD j 0) := by
  unfold ordL
  rw [List.getD_eq_getElem?_getD, List.getElem?_map, List.getElem?_range h]
  rfl
def ordP (l : Nat → Nat) (n : Nat) : List Pc := (List.range n).map fun j => (l (order.getD j 0), 3)
theorem ordP_succ (l : Nat → Nat) (n : Nat) : ordP l (n + 1) = ordP l n ++ [(l (order.getD n 0), 3)] := by simp [ordP, List.range_succ]
theorem ordP_len (l : Nat → Nat) (n : Nat) : len (ordP l n) = 3 * n := by
  induction n with
  | zero => rfl
  | succ n ih => rw [ordP_succ, len_append, ih]; simp only [len]; omega
theorem ordLt (j : Nat) (h : j < 19) : order.getD j 0 < 19 := by
  have : ∀ j, j < 19 → order.getD j 0 < 19 := by decide
  exact this j h
theorem widthT_more (i : Nat) (h : i < 19) : widthT i = more i ∧ more i ≤ 7 := by
  have : ∀ i, i < 19 → widthT i = more i ∧ more i ≤ 7 := by decide
  exact this i h
theorem steps_next (l0 : Nat → Nat) (ss : List Sp) (i : Nat) (h : i < ss.length) : (ss.take (i + 1)).flatMap (stpP (word l0 19)) = (ss.take i).flatMap (stpP (word l0 19)) ++ [word l0 19 (ss.getD i (0, 0)).1, ((ss.getD i (0, 0)).2, more (ss.getD i (0, 0)).1)] := by
  rw [List.take_add_one, List.flatMap_append, List.getElem?_eq_getElem h, List.getD_eq_getElem?_getD, List.getElem?_eq_getElem h]
  simp [stpP]
theorem two_new {w : World} {p : Nat} {l : List Pc} (h : WP w p l) (v0 v1 : Value) (t : TypeId) : WP (w.alloc (.cells #[v0, v1] t)) p l ∧ Kept p w (w.alloc (.cells #[v0, v1] t)) ∧ Ap (w.alloc (.cells #[v0, v1] t)) p w.heap.size ∧
    (w.alloc (.cells #[v0, v1] t)).cell? ⟨w.heap.size, 0, none⟩ = some v0 ∧ (w.alloc (.cells #[v0, v1] t)).cell? ⟨w.heap.size, 1, none⟩ = some v1 := by
  have hb := (Below.refl w.heap.size w).alloc (Nat.le_refl _) (.cells #[v0, v1] t)
  exact ⟨h.below hb, h.keep hb, Ap.new h _, by simp, by simp⟩
theorem right_le {l : Nat → Nat} {n : Nat} (h : Right l n) : all l n ≤ 2 ^ 15 := by
  rcases h with h | ⟨h, h2⟩ | h
  · rw [(none_all _ _ h).1]; omega
  · rw [(one_all _ _ h).2 h2]; omega
  · omega
/-- A block that came behind a writer lies apart from it. -/
theorem Ap.behind {w w' : World} {p q : Nat} {l : List Pc} (h : WP w p l) (hb : Below w.heap.size w w') (h1 : w.heap.size ≤ q) (h2 : q < w'.heap.size) : Ap w' p q := by
  have a1 := h.lt
  have a2 := h.row
  refine ⟨h2, by omega, ?_⟩
  rw [rowOf_same (hb.cell (p := ⟨p, 0, none⟩) a1)]
  omega
set_option maxHeartbeats 4000000 in
set_option maxRecDepth 100000 in
theorem wlengths_any (p : Nat) (ls : List Pc) (bS cS_ ns bD cD_ nd : Nat) (l1 l2 : Nat → Nat) (v1 v2 : Value) (w : World) (hW : WP w p ls) (hS : ∀ i, i < ns → w.cell? ⟨bS, i, none⟩ = some (.int .i64 (l1 i : Int))) (hD : ∀ i, i < nd → w.cell? ⟨bD, i, none⟩ = some (.int .i64 (l2 i : Int)))
    (hns : 257 ≤ ns ∧ ns ≤ 286) (hnd : 1 ≤ nd ∧ nd ≤ 30) (hl1 : ∀ i, i < ns → l1 i ≤ 15) (hl2 : ∀ i, i < nd → l2 i ≤ 15) (r1 : Right l1 ns) (r2 : Right l2 nd) (he : 0 < l1 256)
    (h1 : w.cell? ⟨0, 0, none⟩ = some v1) (h2 : w.cell? ⟨2, 0, none⟩ = some v2) (hc : len ls + 10000 ≤ 4000000) :
    Calls Tryz.prog 79 #[.pointer (some ⟨p, 0, none⟩), .slice (some ⟨bS, 0, none⟩) ns cS_, .slice (some ⟨bD, 0, none⟩) nd cD_] w fun e w' => ∃ nc l0 ss, e = .returned (.tuple #[]) ∧ Hd ns nd nc l0 l1 l2 ss ∧ WP w' p (ls ++ headP ns nd nc l0 ss) ∧ Kept p w w' := by
  have hb0 : Below w.heap.size w (w.alloc (.cells #[.slice (some ⟨bS, 0, none⟩) ns cS_, .slice (some ⟨bD, 0, none⟩) nd cD_] 38)) := (Below.refl _ _).alloc (Nat.le_refl _) _
  have lS := World.block_lt_of_cell? _ _ (hS 0 (by omega))
  have lD := World.block_lt_of_cell? _ _ (hD 0 (by omega))
  have e1 := World.block_lt_of_cell? _ _ h1
  have e2 := World.block_lt_of_cell? _ _ h2
  simp only at lS lD e1 e2
  obtain ⟨B, hBq⟩ : ∃ q, q = w.heap.size := ⟨_, rfl⟩
  have hG : ∀ (l : Nat → Nat) (m b : Nat), b < w.heap.size → (∀ i, i < m → w.cell? ⟨b, i, none⟩ = some (.int .i64 (l i : Int))) → ∀ j v, (nV ((List.range m).map l))[j]? = some v → (w.alloc (.cells #[.slice (some ⟨bS, 0, none⟩) ns cS_, .slice (some ⟨bD, 0, none⟩) nd cD_] 38)).cell? ((⟨b, 0, none⟩ : Addr).add j) = some v := fun l m b hbl hcell j v hv => by
    have hj : j < m := by
      rcases Nat.lt_or_ge j m with q | q
      · exact q
      · rw [List.getElem?_eq_none (by rw [nV_length]; simpa using q)] at hv; cases hv
    rw [nV_at _ _ (by simpa using hj)] at hv
    rw [addr_add, Nat.zero_add, (hb0.cell (p := ⟨b, j, none⟩) hbl).trans (hcell j hj), ← hv]
    congr 2
    rw [List.getD_eq_getElem?_getD, List.getElem?_map, List.getElem?_range hj]
    rfl
  have HX := hide (concatI_any w.heap.size (.slice (some ⟨bS, 0, none⟩) ns cS_) (.slice (some ⟨bD, 0, none⟩) nd cD_) ns nd (nV ((List.range ns).map l1)) (nV ((List.range nd).map l2)) (w.alloc (.cells #[.slice (some ⟨bS, 0, none⟩) ns cS_, .slice (some ⟨bD, 0, none⟩) nd cD_] 38)) (by simp [go_sem]) (by simp [go_sem])
    (.inr ⟨⟨bS, 0, none⟩, cS_, rfl, by rw [nV_length]; simp, hG l1 ns bS lS hS⟩) (.inr ⟨⟨bD, 0, none⟩, cD_, rfl, by rw [nV_length]; simp, hG l2 nd bD lD hD⟩) (nV_one _) (nV_one _) (by omega) (by omega))
  have HB0 := hide hb0
  have H1 := hide h1
  have H2 := hide h2
  have HW := hide hW
  have hbl0 : (w.alloc (.cells #[.slice (some ⟨bS, 0, none⟩) ns cS_, .slice (some ⟨bD, 0, none⟩) nd cD_] 38)).heap.size = w.heap.size + 1 := by simp
  clear hb0 hG hS hD h1 h2 hW
  go_enter Tryz.func79, Tryz.ntmps79
  go_wp2_with fail
  refine (unhide HX).mono ?_
  generalize w.alloc (.cells #[.slice (some ⟨bS, 0, none⟩) ns cS_, .slice (some ⟨bD, 0, none⟩) nd cD_] 38) = w0 at *
  rintro e w1 ⟨v, rfl, ho1, hb1⟩
  clear HX
  obtain ⟨L, hL⟩ : ∃ L, L = (List.range ns).map l1 ++ (List.range nd).map l2 := ⟨_, rfl⟩
  have hLl : L.length = ns + nd := by rw [hL]; simp
  rw [← nV_append, ← hL, ← hLl] at ho1
  obtain ⟨gR, cR, rfl, hgR, hgRl, hcR, _, hcell⟩ := own_someD ho1 (by omega)
  have hL15 : ∀ x ∈ L, x ≤ 15 := fun x hx => by
    rw [hL] at hx
    rcases List.mem_append.1 hx with q | q
    · obtain ⟨j, hj, rfl⟩ := List.mem_map.1 q
      exact hl1 j (List.mem_range.1 hj)
    · obtain ⟨j, hj, rfl⟩ := List.mem_map.1 q
      exact hl2 j (List.mem_range.1 hj)
  have HX := hide (steps_any gR 0 cR L w1 (fun i hi => by rw [Nat.zero_add]; exact hcell i _ (nV_at L i hi)) (by omega) (by omega) hL15 hcR)
  have HB1 := hide ((unhide HB0).trans (hb1.mono (by omega)))
  have hs1 := hb1.size
  have HLq := hide hL
  have hLlq := hide hLl
  obtain ⟨NL, hNL⟩ : ∃ q, q = L.length := ⟨_, rfl⟩
  rw [← hNL]
  rw [← hNL] at HX
  have HNL := hide hNL
  clear hb1 ho1 hcell hcR hL hL15 HB0 hLl hNL
  go_wp2_with fail
  refine (unhide HX).mono ?_; rintro e w2 ⟨aL, cL, ss, rfl, ho2, hdec, hb2⟩
  have hsn : 0 < ss.length := by
    rcases Nat.eq_zero_or_pos ss.length with z | z
    · exfalso
      have hz : ss = [] := List.eq_nil_of_length_eq_zero z
      rw [hz] at hdec
      have h3 := congrArg List.length (Dec.none hdec)
      have h4 : L.length = ns + nd := unhide hLlq
      rw [h4] at h3
      simp only [List.length_nil] at h3
      omega
    · exact z
  obtain ⟨gL, c2, hv, hgL, hgLl, _, _, hQ⟩ := own_someD ho2 hsn
  injection hv with q1 _ q3
  subst q1
  have hdle := hdec.le
  have heach := hdec.each
  have hs2 := hb2.size
  have HB2 := hide ((unhide HB1).trans (hb2.mono (by omega)))
  have HX := hide (ownCode_any gL ss.length cL ss v1 v2 w2 hQ rfl hsn (by have := unhide hLlq; simp at hdle; omega) (fun s hs => (heach s hs).1) (((unhide HB2).cell (p := ⟨0, 0, none⟩) e1).trans (unhide H1)) (((unhide HB2).cell (p := ⟨2, 0, none⟩) e2).trans (unhide H2)))
  have HQ2 := hide hQ
  have HDC := hide hdec
  obtain ⟨n, hn⟩ : ∃ n, n = ss.length := ⟨_, rfl⟩
  rw [← hn]
  rw [← hn] at HX
  have Hn := hide hn
  have hn3 : n ≤ 316 := by have := unhide hLlq; simp at hdle; omega
  have hn0 : 0 < n := by omega
  have HEA := hide heach
  clear hb2 ho2 hQ hdec q3 hdle hn hsn heach HB1 H1 H2
  go_wp2_with fail
  refine (unhide HX).mono ?_; rintro e w3 ⟨vc, l0, rfl, hcv, hbst, hb3⟩
  obtain ⟨b1, b2, rfl, hb1g, hb2g, hc1, hc2⟩ := hcv.is
  have hl3 : b1 < w3.heap.size := World.block_lt_of_cell? _ _ (hc1 0 (by omega))
  have hl3' : b2 < w3.heap.size := World.block_lt_of_cell? _ _ (hc2 0 (by omega))
  have hs3 := hb3.size
  have ba := (Below.refl w3.heap.size w3).alloc (Nat.le_refl _) (.cells #[.slice (some ⟨b1, 0, none⟩) 19 19, .slice (some ⟨b2, 0, none⟩) 19 19] 101)
  have bw3 := (unhide HB2).trans (hb3.mono (show w.heap.size ≤ w2.heap.size by omega))
  have HB4 := hide (bw3.trans (ba.mono (show w.heap.size ≤ w3.heap.size by omega)))
  have C0 : (w3.alloc (.cells #[.slice (some ⟨b1, 0, none⟩) 19 19, .slice (some ⟨b2, 0, none⟩) 19 19] 101)).cell? ⟨w3.heap.size, 0, none⟩ = some (.slice (some ⟨b1, 0, none⟩) 19 19) := by simp
  have C1 : (w3.alloc (.cells #[.slice (some ⟨b1, 0, none⟩) 19 19, .slice (some ⟨b2, 0, none⟩) 19 19] 101)).cell? ⟨w3.heap.size, 1, none⟩ = some (.slice (some ⟨b2, 0, none⟩) 19 19) := by simp
  have hs4 : (w3.alloc (.cells #[.slice (some ⟨b1, 0, none⟩) 19 19, .slice (some ⟨b2, 0, none⟩) 19 19] 101)).heap.size = w3.heap.size + 1 := by simp
  have HK1 := hide (fun i hi => (ba.cell (p := ⟨b1, i, none⟩) hl3).trans (hc1 i hi))
  have HK2 := hide (fun i hi => (ba.cell (p := ⟨b2, i, none⟩) hl3').trans (hc2 i hi))
  have HLL := hide (fun j u hu => ((hb3.trans (ba.mono hs3)).cell (p := ⟨gL, j, none⟩) hgLl).trans (unhide HQ2 j u hu))
  have HX := hide (ordered_any b1 19 l0 _ (unhide HK1) (fun i hi => by have := hbst.le i hi; omega))
  have HC01 := hide (And.intro C0 C1)
  have HBS := hide hbst
  clear hc1 hc2 hb3 ba hcv hbst C0 C1 HQ2 bw3
  go_wp2_with fail
  refine (unhide HX).mono ?_
  obtain ⟨g7, hg7⟩ : ∃ q, q = w3.heap.size := ⟨_, rfl⟩
  rw [← hg7] at HC01 hs4 hl3 hl3' hs3 ⊢
  clear hg7
  generalize w3.alloc (.cells #[.slice (some ⟨b1, 0, none⟩) 19 19, .slice (some ⟨b2, 0, none⟩) 19 19] 101) = w4 at *
  rintro e w5 ⟨aO, cO, rfl, ho5, hb5⟩
  obtain ⟨gO, c5, hv, hgO, hgOl, hcO, hcOm, hcell⟩ := own_someD ho5 (by omega)
  injection hv with q1 _ q3
  subst q1
  subst q3
  have hO : ∀ j, j < 19 → w5.cell? ⟨gO, 0 + j, none⟩ = some (.int .i64 (((fun j => l0 (order.getD j 0)) j : Nat) : Int)) := fun j hj => by
    rw [Nat.zero_add]
    refine hcell j _ ?_
    rw [nV_at _ _ (by rw [ordL_length]; exact hj), ordL_getD _ _ _ hj]
  have hs5 := hb5.size
  have hB5 := (unhide HB4).trans (hb5.mono (show w.heap.size ≤ w4.heap.size by omega))
  have HW5 := hide ((unhide HW).below hB5)
  have HK5 := hide ((unhide HW).keep hB5)
  have aO : Ap w5 p gO := Ap.behind (unhide HW) hB5 (by omega) hgOl
  have aL : Ap w5 p gL := Ap.behind (unhide HW) hB5 (by omega) (by omega)
  have a7 : Ap w5 p g7 := Ap.behind (unhide HW) hB5 (by omega) (by omega)
  have aB1 : Ap w5 p b1 := Ap.behind (unhide HW) hB5 (by omega) (by omega)
  have aB2 : Ap w5 p b2 := Ap.behind (unhide HW) hB5 (by omega) (by omega)
  have HCV : Hid (CV w5 p (.agg #[.slice (some ⟨b1, 0, none⟩) 19 19, .slice (some ⟨b2, 0, none⟩) 19 19]) l0 19) := CV.mk' (fun i hi => by rw [Nat.zero_add]; exact (hb5.cell (p := ⟨b1, i, none⟩) (by show b1 < _; omega)).trans (unhide HK1 i hi)) (fun i hi => (hb5.cell (p := ⟨b2, i, none⟩) (by show b2 < _; omega)).trans (unhide HK2 i hi)) (by omega) (by omega) aB1.2 aB2.2
  have HC7 : Hid (∀ w', Kept p w5 w' → w'.cell? ⟨g7, 0, none⟩ = some (.slice (some ⟨b1, 0, none⟩) 19 19) ∧ w'.cell? ⟨g7, 1, none⟩ = some (.slice (some ⟨b2, 0, none⟩) 19 19)) := fun w' hk => ⟨(a7.cell hk 0).trans ((hb5.cell (p := ⟨g7, 0, none⟩) (by show g7 < _; omega)).trans (unhide HC01).1), (a7.cell hk 1).trans ((hb5.cell (p := ⟨g7, 1, none⟩) (by show g7 < _; omega)).trans (unhide HC01).2)⟩
  have HCO : Hid (∀ w' j, Kept p w5 w' → j < 19 → w'.cell? ⟨gO, j, none⟩ = some (.int .i64 ((l0 (order.getD j 0) : Nat) : Int))) := fun w' j hk hj => (aO.cell hk j).trans (by have := hO j hj; rwa [Nat.zero_add] at this)
  have HCL : Hid (∀ w' j u, Kept p w5 w' → (stV ss)[j]? = some u → w'.cell? ⟨gL, j, none⟩ = some u) := fun w' j u hk hu => (aL.cell hk j).trans ((hb5.cell (p := ⟨gL, j, none⟩) (by show gL < _; omega)).trans (unhide HLL j u hu))
  have HX := hide (dused_any gO 0 19 cO 4 (fun j => l0 (order.getD j 0)) w5 hO (by omega) hcO hcOm)
  clear hb5 ho5 hcell hO hB5 aO aL a7 aB1 aB2 HB4 HK1 HK2 HLL HC01 HB2 HW
  go_wp2_with fail
  refine (unhide HX).mono ?_; rintro e w6 ⟨nc, rfl, hnc4, hnc19, htrim, hw6⟩
  obtain rfl : w5 = w6 := hw6.symm
  have HTR := hide htrim
  clear htrim HX
  obtain ⟨x1, hx1⟩ : ∃ q, q = ns - 257 := ⟨_, rfl⟩
  obtain ⟨x2, hx2⟩ : ∃ q, q = nd - 1 := ⟨_, rfl⟩
  obtain ⟨x3, hx3⟩ : ∃ q, q = nc - 4 := ⟨_, rfl⟩
  have z1 : (ns : Int) - 257 = (x1 : Int) := by omega
  have z2 : (nd : Int) - 1 = (x2 : Int) := by omega
  have z3 : (nc : Int) - 4 = (x3 : Int) := by omega
  have y1 : x1 < 2 ^ 5 := by omega
  have y2 : x2 < 2 ^ 5 := by omega
  have y3 : x3 < 2 ^ 4 := by omega
  have HX1 := hide hx1
  have HX2 := hide hx2
  have HX3 := hide hx3
  have HX := hide (wnumber_any p ls x1 5 w5 (unhide HW5) (by omega) y1 (by omega))
  clear hx1 hx2 hx3 HW5
  go_wp2_with fail
  refine (unhide HX).mono ?_; rintro e w6 ⟨rfl, hW6, hk6⟩
  have HX := hide (wnumber_any p (ls ++ [(x1, 5)]) x2 5 w6 hW6 (by omega) y2 (by rw [len_append]; simp only [len]; omega))
  clear hW6
  go_wp2_with fail
  refine (unhide HX).mono ?_; rintro e w7 ⟨rfl, hW7, hk7⟩
  have HX := hide (wnumber_any p ((ls ++ [(x1, 5)]) ++ [(x2, 5)]) x3 4 w7 hW7 (by omega) y3 (by rw [len_append, len_append]; simp only [len]; omega))
  have hk57 := hk6.trans hk7
  clear hW7 hk6 hk7
  go_wp2_with fail
  refine (unhide HX).mono ?_; rintro e w8 ⟨rfl, hW8, hk8⟩
  have HK8 := hide (hk57.trans hk8)
  have HW8 := hide hW8
  obtain ⟨l3, hl3e⟩ : ∃ q, q = ((ls ++ [(x1, 5)]) ++ [(x2, 5)]) ++ [(x3, 4)] := ⟨_, rfl⟩
  have hlen3 : len l3 = len ls + 14 := by rw [hl3e, len_append, len_append, len_append]; simp only [len]
  rw [← hl3e] at HW8
  have HL3 := hide hl3e
  clear hk57 hk8 hW8 hl3e HX z1 z2 z3 y1 y2 y3
  go_wp2
  go_loopw [43] (fun i wr => ∃ j : Nat, j ≤ nc ∧ i = .int .i64 (j : Int) ∧ Hid (WP wr p (l3 ++ ordP l0 j)) ∧ Hid (Kept p w5 wr)) (fun i _ => nc - (intOf i).toNat)
  case atStart => exact ⟨0, Nat.zero_le _, rfl, by show WP _ _ _; rw [show ordP l0 0 = [] from rfl, List.append_nil]; exact unhide HW8, HK8⟩
  case round =>
    clear HW8 HK8
    obtain ⟨j, hj, rfl, HWr, HKr⟩ := hrel
    have hpl := ordP_len l0 j
    by_cases hlt : j < nc
    · have d1 : decide ((j : Int) < (nc : Int)) = true := decide_eq_true (by omega)
      have d1n : decide (j < nc) = true := decide_eq_true hlt
      have hji : (j : Int) < (nc : Int) := by omega
      have c0 := unhide HCO wr j (unhide HKr) (by omega)
      have hx7 : l0 (order.getD j 0) < 2 ^ 3 := by
        have := (unhide HBS).le _ (ordLt j (by omega))
        omega
      have HPS := hide (ordP_succ l0 j)
      generalize l0 (order.getD j 0) = x at *
      have HX := hide (wnumber_any p (l3 ++ ordP l0 j) x 3 wr (unhide HWr) (by omega) hx7 (by rw [len_append]; omega))
      clear HWr
      go_wp2_with fail
      refine (unhide HX).mono ?_; rintro e w9 ⟨rfl, hW9, hk9⟩
      have HW9 : Hid (WP w9 p (l3 ++ ordP l0 (j + 1))) := by show WP _ _ _; rw [unhide HPS, ← List.append_assoc]; exact hW9
      have HK9 := hide ((unhide HKr).trans hk9)
      clear hW9 hk9 HX
      go_wp2
      go_roundw
      case rel => exact ⟨j + 1, by omega, by go_num, HW9, HK9⟩
      case measure => simp [intOf]; omega
    · obtain rfl : j = nc := by omega
      have d1 : decide ((j : Int) < (j : Int)) = false := by simp
      obtain ⟨l4, hl4⟩ : ∃ q, q = l3 ++ ordP l0 j := ⟨_, rfl⟩
      have hlen4 : len l4 ≤ len ls + 100 := by rw [hl4, len_append]; omega
      rw [← hl4] at HWr
      have HL4 := hide hl4
      clear hl4 hpl
      go_wp2
      go_loopw [53] (fun iv wx => ∃ i : Nat, i ≤ n ∧ iv = .int .i64 (i : Int) ∧ Hid (WP wx p (l4 ++ (ss.take i).flatMap (stpP (word l0 19)))) ∧ Hid (Kept p w5 wx)) (fun iv _ => n - (intOf iv).toNat)
      case atStart => exact ⟨0, Nat.zero_le _, rfl, by show WP _ _ _; rw [List.take_zero, List.flatMap_nil, List.append_nil]; exact HWr, HKr⟩
      case round =>
        clear HWr HKr
        obtain ⟨i, hi, rfl, HWx, HKx⟩ := hrel
        by_cases hlti : i < n
        · have d2 : decide ((i : Int) < (n : Int)) = true := decide_eq_true (by omega)
          have d2n : decide (i < n) = true := decide_eq_true hlti
          have hii : (i : Int) < (n : Int) := by omega
          have hil : i < ss.length := by have := unhide Hn; omega
          obtain ⟨q0, q1⟩ := stV_at ss i hil
          have c0 := unhide HCL wr _ _ (unhide HKx) q0
          have c1 := unhide HCL wr _ _ (unhide HKx) q1
          have hmem : ss.getD i (0, 0) ∈ ss := by
            rw [List.getD_eq_getElem?_getD, List.getElem?_eq_getElem hil]
            exact List.getElem_mem hil
          have hea := unhide HEA _ hmem
          have hx0 := ((unhide HBS).same _ hea.1).2 (cntS_pos hmem)
          have HST := hide (steps_next l0 ss i hil)
          have hlp : len ((ss.take i).flatMap (stpP (word l0 19))) ≤ 14 * 316 := by
            have h1 := len_steps l0 (ss.take i) (fun s hs => (unhide HEA s (List.mem_of_mem_take hs)).1) (unhide HBS).le
            rw [List.length_take] at h1
            have := unhide Hn
            omega
          obtain ⟨x, hx⟩ : ∃ x, x = (ss.getD i (0, 0)).1 := ⟨_, rfl⟩
          obtain ⟨y, hy⟩ : ∃ y, y = (ss.getD i (0, 0)).2 := ⟨_, rfl⟩
          rw [← hx] at c0 hea hx0 HST
          rw [← hy] at c1 hea HST
          have hx19 := hea.1
          have hlx := (unhide HBS).le x hx19
          have hcd := code_lt l0 19 x hx19 hx0 (by omega) (right_le (unhide HBS).right)
          have hwt := widthT_more x hx19
          have HTM := hide (fun w' => times_any x w')
          rw [hwt.1] at HTM
          have hm7 := hwt.2
          have hyl := hea.2
          generalize more x = m at *
          generalize leastT x = t at *
          have hy128 : y < 128 := Nat.lt_of_lt_of_le hyl (Nat.pow_le_pow_right (n := 2) (j := 7) (by omega) hm7)
          have hl5 : len (l4 ++ (ss.take i).flatMap (stpP (word l0 19))) ≤ len ls + 5000 := by rw [len_append]; omega
          obtain ⟨hWa, hka, hApa, T0, T1⟩ := two_new (unhide HWx) (.int .i64 (x : Int)) (.int .i64 (y : Int)) 176
          have hKa := (unhide HKx).trans hka
          obtain ⟨k0, k1⟩ := unhide HC7 _ hKa
          have HX := hide (wsymbol_any p _ _ l0 19 x _ hWa ((unhide HCV).kept hKa) hx19 (by omega) hcd (by omega))
          have HYL := hide hyl
          have HKA := hide hKa
          have HAP := hide (And.intro hApa (And.intro T0 T1))
          clear q0 q1 hx hy hea hx0 hcd hwt hlp hWa hka hKa T0 T1 hApa hyl HWx HKx hmem
          go_wp2_with fail
          refine (unhide HX).mono ?_
          generalize wr.alloc (.cells #[.int .i64 (x : Int), .int .i64 (y : Int)] 176) = wa at *
          generalize wr.heap.size = gx at *
          rintro e w9 ⟨rfl, hW9, hk9⟩
          have S0 := ((unhide HAP).1.cell hk9 0).trans (unhide HAP).2.1
          have S1 := ((unhide HAP).1.cell hk9 1).trans (unhide HAP).2.2
          have HK9 := hide ((unhide HKA).trans hk9)
          have HW9 := hide hW9
          clear hW9 hk9 HX k0 k1 HKA HAP c0 c1
          go_wp2_with fail
          refine (unhide HTM w9).mono ?_; rintro e w10 ⟨rfl, hw10⟩
          obtain rfl : w9 = w10 := hw10.symm
          have HX := hide (wnumber_any p _ y m w9 (unhide HW9) (by omega) (unhide HYL) (by rw [len_append, show len [word l0 19 x] = l0 x by simp [len, word]]; omega))
          go_wp2_with fail
          refine (unhide HX).mono ?_; rintro e w11 ⟨rfl, hW11, hk11⟩
          have HW11 : Hid (WP w11 p (l4 ++ (ss.take (i + 1)).flatMap (stpP (word l0 19)))) := by show WP _ _ _; rw [unhide HST]; simpa [List.append_assoc] using hW11
          have HK11 := hide ((unhide HK9).trans hk11)
          clear hW11 hk11 HX HW9 HK9
          go_wp2
          go_roundw
          case rel => exact ⟨i + 1, by omega, by go_num, HW11, HK11⟩
          case measure => simp [intOf]; omega
        · obtain rfl : i = n := by omega
          have d2 : decide ((i : Int) < (i : Int)) = false := by simp
          go_wp2
          go_end0
          refine ⟨j, l0, ss, rfl, ⟨hns, hnd, ⟨hnc4, hnc19⟩, (unhide HBS).le, (unhide HBS).right, right_le (unhide HBS).right, unhide HTR, ?_, fun s hs => ((unhide HBS).same _ (unhide HEA s hs).1).2 (cntS_pos hs), r1, r2, he⟩, ?_, (unhide HK5).trans (unhide HKx)⟩
          · have := unhide HDC
            rwa [unhide HLq] at this
          · have hf := unhide HWx
            rw [unhide Hn, List.take_length, unhide HL4, unhide HL3, unhide HX1, unhide HX2, unhide HX3] at hf
            simpa [headP, ordP, List.append_assoc] using hf
end Go.Proofs.YtfeljhikeddodadGreatDoor
