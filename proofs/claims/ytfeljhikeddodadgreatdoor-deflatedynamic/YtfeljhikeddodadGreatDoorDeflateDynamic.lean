/- The statement on tokens in one dynamic block: the walk. -/
import Derived.Test.YtfeljhikeddodadGreatDoorMh24
import Derived.Test.YtfeljhikeddodadGreatDoorMh27
import Derived.Test.YtfeljhikeddodadGreatDoorMh28
import Derived.Test.YtfeljhikeddodadGreatDoorMh29
namespace Go.Proofs.YtfeljhikeddodadGreatDoor
open Go.RowKit Pm Cn Cd Nf Ps

theorem first_oneD {t : Tks} {i j : Nat} (h1 : ∀ k, k < i → t.good k) (h2 : ¬ t.good i) (h3 : ∀ k, k < j → t.good k) (h4 : ¬ t.good j) : i = j := by
  rcases Nat.lt_or_ge i j with h | h
  · exact absurd (h3 i h) h2
  · rcases Nat.lt_or_ge j i with h' | h'
    · exact absurd (h1 j h') h4
    · omega
/-- What the document tells of the block's text. -/
theorem inflateOf_told {t : Tks} {n ns nd nc : Nat} {l0 l1 l2 : Nat → Nat} {ss : List Sp} (h : DynOf t n ns nd nc l0 l1 l2 ss) (hg : ∀ i, i < n → t.good i) (hb : ∀ i, i < n → t.b i < 256) (hn : n ≤ 300) (hm : (t.out n).length ≤ 300000) (w : World) :
    Calls Tryz.prog 15 #[.string (textP (dynP ns nd nc l0 l1 l2 ss t n)), .int .i64 ((t.out n).length : Int)] w fun e w' => DTold t n ns nd l1 l2 w' e ⟨(t.out n).toArray⟩ (textP (dynP ns nd nc l0 l1 l2 ss t n)).size ∧ Below w.heap.size w w' := by
  have hsh : ∀ i, i < n → t.shaped i := fun i hi => (hg i hi).1
  have hl := dynP_len h hsh hb
  have hsz := textP_size (dynP ns nd nc l0 l1 l2 ss t n)
  have hat := at_text (dynP_fit h hsh hb) ⟨#[]⟩
  have he : textP (dynP ns nd nc l0 l1 l2 ss t n) ++ (⟨#[]⟩ : ByteArray) = textP (dynP ns nd nc l0 l1 l2 ss t n) := by
    apply text_ext
    rw [ByteArray.data_append]
    simp
  rw [he] at hat
  obtain ⟨p1, p2, p3, p4, p5, p6⟩ := dyn_parts (most := (t.out n).length) h.hd h.cds hsh hb (fun i hi => (hg i hi).2) h.uses (Nat.le_refl _) hat
  have hk0 : 0 < len (dynP ns nd nc l0 l1 l2 ss t n) := by
    unfold dynP
    rw [len_append]
    show 0 < 3 + _
    omega
  refine (inflateOf_dyn _ (t.out n).length _ _ _ _ _ w hm (by omega) p1 p2 p3 p4 p5 hk0).mono ?_
  rintro e w' ⟨hd, hb'⟩
  exact ⟨dyn_told h hg hb (by omega) p6 hd, hb'⟩
set_option maxHeartbeats 8000000 in
set_option maxRecDepth 100000 in
theorem deflateDynamic_any (ao : Option Addr) (n cap : Nat) (t : Tks) (w : World) (a : Nat → Addr) (hS : Sent w a) (hG : GlS w a) (hn : 12 ≤ w.heap.size) (hP : IsTokens w ao n t) :
    Calls Tryz.prog 4 #[.slice ao n cap] w fun e w' => e = .returned (.bool true) ∧ Below w.heap.size w w' := by
  have hb8 : ∀ i, i < n → t.b i < 256 := fun i hi => by
    rcases hP with h | ⟨b, off, _, _, h⟩
    · omega
    · exact (h i hi).2.2.2.1
  have HB8 := hide hb8
  have HS := hide hS
  have HP := hide hP
  have HG := hide hG
  have HM := hide (blank_any w)
  clear hS hP hG hb8
  go_enter Tryz.func4, Tryz.ntmps4
  go_wp2_with fail
  refine (unhide HM).mono ?_
  rintro e w1 ⟨rfl, hb1⟩
  have HP1 := hide ((unhide HP).below hb1)
  have HW := hide (wide_any ao n cap t w1 (unhide HP1))
  clear HM
  go_wp2_with fail
  refine (unhide HW).mono ?_
  rintro e w1' ⟨rfl, h1⟩
  replace h1 := h1.symm
  subst h1
  by_cases hwd : n ≤ 300 ∧ t.wide n ≤ 6000
  rotate_left
  · rw [decide_eq_false hwd]
    clear HW
    go_wp2
    go_ret
    exact ⟨rfl, hb1⟩
  rw [decide_eq_true hwd]
  obtain ⟨hl, hwl⟩ := hwd
  have hsm : ∀ i, i ≤ n → (∀ j, j < i → t.good j) → (t.out i).length ≤ 300000 := fun i hi hg => by
    have q1 := t.out_le (fun j hj => (hg j hj).1)
    have q2 := t.wide_mono hi
    omega
  have HSM := hide hsm
  have HT := hide (tokens_copy ao n cap t w1 (unhide HP1) (by omega))
  clear HW hsm hwl
  go_wp2_with fail
  refine (unhide HT).mono ?_
  rintro e w2 ⟨a2, c2, rfl, hT2, hb2⟩
  have hb2w : Below w.heap.size w w2 := hb1.trans (hb2.mono hb1.size)
  have hS2 := (unhide HS).below hb2w
  have hG2 := (unhide HG).below hb2w hn
  have hn2 : 12 ≤ w2.heap.size := Nat.le_trans hn hb2w.size
  have HE := hide (dynamicF_any a2 n c2 t w2 _ _ _ (hS2.cell 2 (by omega)) (hS2.cell 1 (by omega)) hT2 hG2.tabs hn2 (by omega) (unhide HSM))
  clear HT hT2 hb2 hb1 HP1 hS2 hG2
  go_wp2_with fail
  refine (unhide HE).mono ?_
  rintro e w3 (⟨ns, nd, nc, l0, l1, l2, ss, hg, rfl, hDO, hb3⟩ | ⟨i, q, hw, rfl, hb3⟩)
  · have HGD := hide hg
    have hb3w : Below w.heap.size w w3 := hb2w.trans (hb3.mono hb2w.size)
    have HO := hide (expandOf_any ao n cap t w3 ((unhide HP).below hb3w) (by omega) (unhide HSM))
    have hol : (t.out n).length ≤ 300000 := unhide HSM n (Nat.le_refl _) hg
    have HIO := hide (fun w => inflateOf_told hDO hg (unhide HB8) hl hol w)
    obtain ⟨s1, s2⟩ := hDO.hd.s
    obtain ⟨d1, d2⟩ := hDO.hd.d
    have HC1 : Hid (∀ (bA cA bB cB : Nat) (oA oB : Nat) (w' : World), IsInts w' (some ⟨bA, oA, none⟩) 286 (fun i => (cE t n i : Int)) → IsInts w' (some ⟨bB, oB, none⟩) ns (fun i => (l1 i : Int)) → Calls Tryz.prog 17 #[.slice (some ⟨bA, oA, none⟩) 286 cA, .slice (some ⟨bB, oB, none⟩) ns cB] w' fun e w'' => e = .returned (.tuple #[.bool true, .bool true]) ∧ Below w'.heap.size w' w'') := fun bA cA bB cB oA oB w' h1 h2 => cost_dd _ _ 286 ns cA cB _ _ w' h1 h2 (by omega) (by omega) (by omega) s2 hDO.cds.t1 hDO.b1 (fun i _ => by have := cS_small t n i; unfold cE; split <;> omega)
    have HC2 : Hid (∀ (bA cA bB cB : Nat) (oA oB : Nat) (w' : World), IsInts w' (some ⟨bA, oA, none⟩) 30 (fun i => (cD t n i : Int)) → IsInts w' (some ⟨bB, oB, none⟩) nd (fun i => (l2 i : Int)) → Calls Tryz.prog 17 #[.slice (some ⟨bA, oA, none⟩) 30 cA, .slice (some ⟨bB, oB, none⟩) nd cB] w' fun e w'' => e = .returned (.tuple #[.bool true, .bool true]) ∧ Below w'.heap.size w' w'') := fun bA cA bB cB oA oB w' h1 h2 => cost_dd _ _ 30 nd cA cB _ _ w' h1 h2 (by omega) (by omega) (by omega) d2 hDO.cds.t2 hDO.b2 (fun i _ => by have := cD_small t n i; omega)
    obtain ⟨u, hu⟩ : ∃ u, u = textP (dynP ns nd nc l0 l1 l2 ss t n) := ⟨_, rfl⟩
    rw [← hu] at HIO ⊢
    have hul : u.size ≤ 1000000 := by
      have := dynP_len hDO (fun i hi => (hg i hi).1) (unhide HB8)
      rw [hu, textP_size]
      omega
    clear HE hg hb3 hb2w hu hDO
    go_wp2_with fail
    refine (unhide HO).mono ?_
    rintro e w4 (⟨_, rfl, hb4⟩ | ⟨j, hj, _, hbad, _, _⟩)
    rotate_left
    · exact absurd (unhide HGD j hj) hbad
    have hb4w : Below w.heap.size w w4 := hb3w.trans (hb4.mono hb3w.size)
    have hb5w := hb4w.alloc hb4w.size (.cells #[.int .i64 0, .int .i64 (-1)] 31)
    have HB5 := hide hb5w
    obtain ⟨o, ho⟩ : ∃ o : ByteArray, o = ⟨(t.out n).toArray⟩ := ⟨_, rfl⟩
    have hos : o.size = (t.out n).length := by rw [ho]; show (t.out n).toArray.size = _; simp
    have hol2 : o.size ≤ 300000 := by omega
    rw [← ho]
    rw [← ho, ← hos] at HIO
    clear HO hb4 hb3w hb4w hb5w ho hos hol
    go_wp2_with fail
    generalize w4.alloc (.cells #[.int .i64 0, .int .i64 (-1)] 31) = w5 at *
    refine (unhide HIO w5).mono ?_
    rintro e w6 ⟨hdt, hb6⟩
    obtain ⟨a11, k11, g, c, gg, rfl, hT6, hI1, hI2, hI3, hI4⟩ := hdt.all
    have hb6w := (unhide HB5).trans (hb6.mono (unhide HB5).size)
    obtain ⟨ob, hob⟩ : ∃ ob : Obj, ob = .cells #[.string o, .int .i64 (u.size : Int), .int .i64 0, .slice (some ⟨g, 0, none⟩) ns c, .slice (some ⟨g, ns, none⟩) nd (c - ns), .slice (some ⟨gg, 0, none⟩) 300 300, .slice (some ⟨gg + 1, 0, none⟩) 40 40, .int .i64 1, .int .i64 2, .slice a11 n k11] 40 := ⟨_, rfl⟩
    have hba : Below w6.heap.size w6 (w6.alloc ob) := (Below.refl _ _).alloc (Nat.le_refl _) _
    have hzA : (w6.alloc ob).heap.size = w6.heap.size + 1 := by simp
    have HB7 := hide (hb6w.trans (hba.mono hb6w.size))
    have k0 : (w6.alloc ob).cell? ⟨w6.heap.size, 0, none⟩ = some (.string o) := by rw [hob]; simp
    have k1 : (w6.alloc ob).cell? ⟨w6.heap.size, 1, none⟩ = some (.int .i64 (u.size : Int)) := by rw [hob]; simp
    have k2 : (w6.alloc ob).cell? ⟨w6.heap.size, 2, none⟩ = some (.int .i64 0) := by rw [hob]; simp
    have k3 : (w6.alloc ob).cell? ⟨w6.heap.size, 3, none⟩ = some (.slice (some ⟨g, 0, none⟩) ns c) := by rw [hob]; simp
    have k4 : (w6.alloc ob).cell? ⟨w6.heap.size, 4, none⟩ = some (.slice (some ⟨g, ns, none⟩) nd (c - ns)) := by rw [hob]; simp
    have k5 : (w6.alloc ob).cell? ⟨w6.heap.size, 5, none⟩ = some (.slice (some ⟨gg, 0, none⟩) 300 300) := by rw [hob]; simp
    have k6 : (w6.alloc ob).cell? ⟨w6.heap.size, 6, none⟩ = some (.slice (some ⟨gg + 1, 0, none⟩) 40 40) := by rw [hob]; simp
    have k7 : (w6.alloc ob).cell? ⟨w6.heap.size, 7, none⟩ = some (.int .i64 1) := by rw [hob]; simp
    have k8 : (w6.alloc ob).cell? ⟨w6.heap.size, 8, none⟩ = some (.int .i64 2) := by rw [hob]; simp
    have k9 : (w6.alloc ob).cell? ⟨w6.heap.size, 9, none⟩ = some (.slice a11 n k11) := by rw [hob]; simp
    have HT7 := hide (hT6.below hba)
    have HI1 := hide (hI1.below hba)
    have HI2 := hide (hI2.below hba)
    have HI3 := hide (hI3.below hba)
    have HI4 := hide (hI4.below hba)
    obtain ⟨W, hW⟩ : ∃ W, W = w6.alloc ob := ⟨_, rfl⟩
    obtain ⟨T, hTe⟩ : ∃ T, T = w6.heap.size := ⟨_, rfl⟩
    rw [← hW] at HB7 HT7 HI1 HI2 HI3 HI4 k0 k1 k2 k3 k4 k5 k6 k7 k8 k9 hzA
    rw [← hTe] at k0 k1 k2 k3 k4 k5 k6 k7 k8 k9 hzA
    have HWE : Hid (w6.alloc (.cells #[.string o, .int .i64 (u.size : Int), .int .i64 0, .slice (some ⟨g, 0, none⟩) ns c, .slice (some ⟨g, ns, none⟩) nd (c - ns), .slice (some ⟨gg, 0, none⟩) 300 300, .slice (some ⟨gg + 1, 0, none⟩) 40 40, .int .i64 1, .int .i64 2, .slice a11 n k11] 40) = W) := by
      show _ = _
      rw [hW, hob]
    have HTE := hide hTe
    have HPW := hide ((unhide HP).below (unhide HB7))
    have hTW : T < W.heap.size := by omega
    clear HIO hdt hT6 hI1 hI2 hI3 hI4 hb6 hb6w hba hob hW hTe HB5
    have entC : ∀ args w, (callFunc 17 args).run Tryz.prog w = .ok (.enter 17 args) w := enters_of Tryz.func17 (by kernel_rfl) rfl
    go_wp2_with fail
    first | rw [unhide HWE] | skip
    refine (sameTokens_any a11 ao n k11 cap t W (unhide HT7) (unhide HPW)).mono ?_; rintro e w8 ⟨rfl, nn, rfl⟩
    go_wp2_with fail
    first | rw [← unhide HTE] | skip
    have HCA : Hid (∀ w', Below W.heap.size W w' → Calls Tryz.prog 17 #[.slice (some ⟨gg, 0, none⟩) 286 300, .slice (some ⟨g, 0, none⟩) ns c] w' fun e w'' => e = .returned (.tuple #[.bool true, .bool true]) ∧ Below w'.heap.size w' w'') := fun w' hb => unhide HC1 gg 300 g c 0 0 w' ((unhide HI1).below hb) ((unhide HI3).below hb)
    have HCB : Hid (∀ w', Below W.heap.size W w' → Calls Tryz.prog 17 #[.slice (some ⟨gg + 1, 0, none⟩) 30 40, .slice (some ⟨g, ns, none⟩) nd (c - ns)] w' fun e w'' => e = .returned (.tuple #[.bool true, .bool true]) ∧ Below w'.heap.size w' w'') := fun w' hb => unhide HC2 (gg + 1) 40 g (c - ns) 0 ns w' ((unhide HI2).below hb) ((unhide HI4).below hb)
    have hb8 : Below W.heap.size W (W.drewN nn) := below_drewN (Below.refl _ _) nn
    have hb8d : Below W.heap.size W (W.drewN nn).drew := hb8.drew
    have HCA8 := hide (unhide HCA _ hb8d)
    clear HC1 HC2 HI1 HI2 HI3 HI4 HT7 HPW HCA k0 k1 k2 k7 k8 k9 HGD HSM HB8
    go_region_with (first | (go_at_call 17; refine (unhide HCA8).mono ?_; rintro e w9 ⟨rfl, hb9⟩))
    all_goals
      have hb9w : Below W.heap.size W w9 := hb8d.trans (hb9.mono hb8d.size)
      have hb9d : Below W.heap.size W w9.drew := hb9w.drew
      have k49 := (hb9w.cell (p := ⟨T, 4, none⟩) hTW).trans k4
      have k69 := (hb9w.cell (p := ⟨T, 6, none⟩) hTW).trans k6
      have HCB9 := hide (unhide HCB _ hb9d)
      clear hb9 HCA8 HCB
      go_wp2_with fail
      go_region_with (first | (go_at_call 17; refine (unhide HCB9).mono ?_; rintro e w10 ⟨rfl, hb10⟩))
      all_goals
        have hb10w : Below W.heap.size W w10 := hb9d.trans (hb10.mono hb9d.size)
        have HBF := hide ((unhide HB7).trans (hb10w.mono (unhide HB7).size))
        clear hb10 HCB9
        go_wp2
        go_ret
        exact ⟨rfl, unhide HBF⟩
  · have HWR := hide hw
    have hb3w : Below w.heap.size w w3 := hb2w.trans (hb3.mono hb2w.size)
    have HO := hide (expandOf_any ao n cap t w3 ((unhide HP).below hb3w) (by omega) (unhide HSM))
    clear HE hw hb3 hb2w
    go_wp2_with fail
    refine (unhide HO).mono ?_
    rintro e w4 (⟨hg, _, _⟩ | ⟨j, hj, hah, hbad, rfl, hb4⟩)
    · exact absurd (hg i (unhide HWR).lt) (unhide HWR).bad
    obtain rfl := first_oneD (unhide HWR).ahead (unhide HWR).bad hah hbad
    have hb4w : Below w.heap.size w w4 := hb3w.trans (hb4.mono hb3w.size)
    have hba : Below w4.heap.size w4 (w4.alloc (.cells #[.int .i64 3, .int .i64 (i : Int)] 31)) := (Below.refl _ _).alloc (Nat.le_refl _) _
    have hb5w : Below w.heap.size w (w4.alloc (.cells #[.int .i64 3, .int .i64 (i : Int)] 31)) := hb4w.trans (hba.mono hb4w.size)
    have hq3 := cells_lt (unhide HWR).at_
    have hb35 : Below w3.heap.size w3 (w4.alloc (.cells #[.int .i64 3, .int .i64 (i : Int)] 31)) := hb4.trans (hba.mono hb4.size)
    have HFA := hide (faulted_at q i 2 _ a ((unhide HS).below hb5w) (by omega) ((hb35.cell (p := ⟨q, 0, none⟩) hq3).trans (unhide HWR).at_) ((hb35.cell (p := ⟨q, 1, none⟩) hq3).trans (unhide HWR).err))
    clear HO hb4 hb3w hb4w hba hb35 hah hbad
    go_wp2_with fail
    refine (unhide HFA).mono ?_
    rintro e w5 ⟨rfl, hb5⟩
    have hbf : Below w.heap.size w w5 := hb5w.trans (hb5.mono hb5w.size)
    clear HFA hb5 hb5w
    go_wp2
    go_ret
    exact ⟨rfl, hbf⟩
end Go.Proofs.YtfeljhikeddodadGreatDoor
