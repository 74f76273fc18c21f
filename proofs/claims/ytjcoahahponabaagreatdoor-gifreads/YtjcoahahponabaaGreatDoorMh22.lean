/- Moving pictures: what is written is read. Plain. Moving pictures: what is written is read, whole. Plain. -/
import Derived.Test.YtjcoahahponabaaGreatDoorGr7
import Derived.Test.YtjcoahahponabaaGreatDoorMh18
import Derived.Test.YtjcoahahponabaaGreatDoorMh21
namespace Go.Proofs.YtjcoahahponabaaGreatDoor
open Go.RowKit Lz

theorem pfx_app (t r : List UInt8) : pfx t (t ++ r) = some r := by
  unfold pfx
  rw [if_pos (by rw [List.isPrefixOf_iff_prefix]; exact List.prefix_append _ _), List.drop_left]
theorem pair_get (n : Nat) (h : n < 65536) : (UInt8.ofNat n).toNat + 256 * (UInt8.ofNat (n / 256)).toNat = n := by
  rw [UInt8.toNat_ofNat', UInt8.toNat_ofNat']; omega
theorem pairR_pairL (n : Nat) (h : n < 65536) (r : List UInt8) : pairR (pairL n ++ r) = some (n, r) := by
  show some (_, r) = _
  rw [pair_get n h]
theorem sideR_pairL (n : Nat) (h : 1 ≤ n ∧ n ≤ 256) (r : List UInt8) : sideR (pairL n ++ r) = some (n, r) := by
  unfold sideR
  rw [pairR_pairL n (by omega)]
  simp only [h, and_self, if_true]

/-- A color that covers all. -/
def fullP (c : Px) : Px := ⟨c.r, c.g, c.b, 255⟩
def rgbs : List Px → List UInt8
  | [] => []
  | c :: l => rgbL c ++ rgbs l
theorem rgbs_app (l m : List Px) : rgbs (l ++ m) = rgbs l ++ rgbs m := by
  induction l with
  | nil => rfl
  | cons c l ih => show rgbL c ++ rgbs (l ++ m) = (rgbL c ++ rgbs l) ++ rgbs m; rw [ih, List.append_assoc]
theorem colT_rgbs (U : List Px) (k : Nat) : colT U k = rgbs ((List.range k).map fun i => U.getD i pz) := by
  induction k with
  | zero => rfl
  | succ k ih =>
    unfold colT
    rw [ih, List.range_succ, List.map_append, rgbs_app]
    rfl
theorem colN_rgbs (L : List Px) (r : List UInt8) : colN L.length (rgbs L ++ r) = some (L.map fullP, r) := by
  induction L with
  | nil => rfl
  | cons c l ih =>
    show colN (l.length + 1) (c.r :: c.g :: c.b :: (rgbs l ++ r)) = _
    rw [colN_step, ih]
    rfl
/-- The colors as they are read. -/
def colV (U : List Px) : List Px := (List.range (2 * 2 ^ szOf U.length)).map fun i => fullP (U.getD i pz)
theorem colV_len (U : List Px) : (colV U).length = 2 * 2 ^ szOf U.length := by unfold colV; simp
theorem colsR_colT (U : List Px) (h : U.length ≤ 256) (r : List UInt8) : colsR (UInt8.ofNat (128 + szOf U.length) :: (colT U (2 * 2 ^ szOf U.length) ++ r)) = some (colV U, r) := by
  have hz := (szOf_le h).1
  have e : (UInt8.ofNat (128 + szOf U.length)).toNat = 128 + szOf U.length := by rw [UInt8.toNat_ofNat']; omega
  unfold colsR
  simp only [e]
  rw [if_pos (by omega), show 128 + szOf U.length - 128 = szOf U.length by omega, colT_rgbs]
  have := colN_rgbs ((List.range (2 * 2 ^ szOf U.length)).map fun i => U.getD i pz) r
  rw [List.length_map, List.length_range] at this
  rw [this, List.map_map]
  rfl
theorem wdN_le {K : Nat} (h : K ≤ 256) : 2 ≤ wdN K ∧ wdN K ≤ 8 ∧ K ≤ 2 ^ wdN K := by
  have hz := szOf_le h
  unfold wdN
  refine ⟨Nat.le_max_right _ _, by omega, Nat.le_trans hz.2 ?_⟩
  rw [show 2 * 2 ^ szOf K = 2 ^ (szOf K + 1) by rw [Nat.pow_succ, Nat.mul_comm]]
  exact Nat.pow_le_pow_right (by decide) (Nat.le_max_left _ _)
theorem arr_bl (s : ByteArray) : (⟨(s.data.toList).toArray⟩ : ByteArray) = s := by cases s; rfl
theorem byte_get {x : Nat} (h : x < 256) : (UInt8.ofNat x).toNat = x := by rw [UInt8.toNat_ofNat']; omega
theorem pixR_pak (V : List Px) (K : Nat) (N : List Nat) (r : List UInt8) (hK : K ≤ 256) (hV : K ≤ V.length) (h0 : 1 ≤ N.length) (hn : N.length ≤ 24000) (hN : ∀ x, x ∈ N → x < K) :
    pixR V N.length (UInt8.ofNat (wdN K) :: (blkL (pakT K N) ++ r)) = some (pxO V (numL N), r) := by
  obtain ⟨h1, h2, h3⟩ := wdN_le hK
  have hm : ∀ y, y ∈ numL N → y.toNat < K := fun y hy => by
    obtain ⟨x, hx, rfl⟩ := List.mem_map.1 hy
    have := hN x hx
    rw [byte_get (by omega)]
    exact this
  have hl : (numL N).length = N.length := by unfold numL; simp
  obtain ⟨q1, q2, q3⟩ := unS_packed (wdN K) h1 h2 (numL N) (fun e => by rw [e] at hl; simp at hl; omega) (by omega) (fun x hx => Nat.lt_of_lt_of_le (hm x hx) h3) ByteArray.empty (by decide)
  rw [ByteArray.append_empty, hl] at q1
  have hj := join_blocks (pakT K N).size (pakT K N).data.toList r (blkL (pakT K N) ++ r).length (by rw [size_list]; exact Nat.le_refl _) (Nat.le_refl _)
  have e : (UInt8.ofNat (wdN K)).toNat = wdN K := byte_get (by omega)
  unfold pixR
  simp only [e]
  rw [show joinL (blkL (pakT K N) ++ r).length (blkL (pakT K N) ++ r) = some ((pakT K N).data.toList, (blkL (pakT K N)).length) from hj]
  simp only
  rw [if_neg (by rw [List.length_append]; omega), arr_bl]
  rw [show unS (pakT K N) (wdN K : Int) (N.length : Int) = _ from q1]
  simp only
  rw [if_pos (fun y hy => Nat.lt_of_lt_of_le (hm y hy) hV), List.drop_left]

/-- What is read of the numbers is what was told, but what covers nothing has no color. -/
theorem pxO_told (q : Nat → Px) (n : Nat) (hq : AN q n) (hK : (ulk (clQ q) n).length ≤ 256) :
    pxO (clrU (flgN (ulk (clQ q) n)) (clrN (ulk (clQ q) n)) (colV (ulk (clQ q) n))) (numL (nmL (clQ q) n)) = (List.range n).map (clQ q) := by
  have hz := szOf_le hK
  unfold pxO numL nmL
  rw [List.map_map, List.map_map]
  refine List.map_congr_left fun i hi => ?_
  have hi := List.mem_range.1 hi
  have hat := nmb_at (clQ q) hi
  have hnd := ulk_nodup (clQ q) n
  generalize hU : ulk (clQ q) n = U at *
  have hj : nmb (clQ q) i < U.length := (List.getElem?_eq_some_iff.1 hat).1
  show (clrU (flgN U) (clrN U) (colV U)).getD (UInt8.ofNat (nmb (clQ q) i)).toNat default = clQ q i
  rw [byte_get (by omega)]
  have hvj : (colV U)[nmb (clQ q) i]? = some (fullP (clQ q i)) := by
    unfold colV
    rw [List.getElem?_map, List.getElem?_range (by omega)]
    show some (fullP (U.getD _ pz)) = _
    rw [List.getD_eq_getElem?_getD, hat]
    rfl
  have hfull : clQ q i ≠ pz → fullP (clQ q i) = clQ q i := fun hne => by
    have h1 : clQ q i = q i ∧ (q i).a ≠ 0 := by
      unfold clQ clP at hne ⊢
      split at hne
      · exact absurd rfl hne
      · rename_i h
        rw [if_neg h]
        exact ⟨rfl, h⟩
    rw [h1.1]
    have h2 : (q i).a = 255 := (hq i hi).resolve_left h1.2
    unfold fullP
    rw [← h2]
  unfold clrU
  by_cases hp : pz ∈ U
  · have hc : clrN U = U.idxOf pz := by unfold clrN; rw [if_pos hp]
    have hcl : U.idxOf pz < U.length := List.idxOf_lt_length_iff.2 hp
    rw [if_pos ⟨by unfold flgN; rw [if_pos hp], by rw [hc, colV_len]; omega⟩, hc, List.getD_eq_getElem?_getD]
    by_cases hjc : U.idxOf pz = nmb (clQ q) i
    · rw [hjc, List.getElem?_set_self (by rw [colV_len]; omega)]
      have : U[U.idxOf pz]? = some pz := by rw [List.getElem?_eq_getElem hcl, List.getElem_idxOf hcl]
      rw [hjc, hat] at this
      injection this with this
      rw [this]; rfl
    · rw [List.getElem?_set_ne hjc, hvj]
      refine hfull fun e => hjc ?_
      rw [e] at hat
      have h3 := (List.getElem?_eq_some_iff.1 hat).2
      have := List.Nodup.idxOf_getElem hnd _ hj
      rw [h3] at this
      exact this
  · rw [if_neg (fun h => by have := h.1; unfold flgN at this; rw [if_neg hp] at this; omega), List.getD_eq_getElem?_getD, hvj]
    exact hfull fun e => hp (by rw [← e]; exact List.mem_of_getElem? hat)
end Go.Proofs.YtjcoahahponabaaGreatDoor
namespace Go.Proofs.YtjcoahahponabaaGreatDoor
open Go.RowKit Lz

theorem frE_zero {f g : Fr} (h : frE f g = 0) : RightP f.W f.H f.n ∧ f.W = g.W ∧ f.H = g.H ∧ 0 ≤ f.d ∧ f.d ≤ 65535 ∧ AN f.q f.n ∧ (ulk (clQ f.q) f.n).length ≤ 256 := by
  unfold frE at h
  by_cases h1 : RightP f.W f.H f.n ∧ f.W = g.W ∧ f.H = g.H
  · by_cases h2 : 0 ≤ f.d ∧ f.d ≤ 65535
    · by_cases h3 : AN f.q f.n ∧ (ulk (clQ f.q) f.n).length ≤ 256
      · exact ⟨h1.1, h1.2.1, h1.2.2, h2.1, h2.2, h3.1, h3.2⟩
      · rw [if_pos h1, if_pos h2, if_neg h3] at h; omega
    · rw [if_pos h1, if_neg h2] at h; omega
  · rw [if_neg h1] at h; omega
theorem frE_of {f g : Fr} (h1 : RightP f.W f.H f.n) (h2 : f.W = g.W) (h3 : f.H = g.H) (h4 : 0 ≤ f.d ∧ f.d ≤ 65535) (h5 : AN f.q f.n) (h6 : (ulk (clQ f.q) f.n).length ≤ 256) : frE f g = 0 := by
  unfold frE
  rw [if_pos ⟨h1, h2, h3⟩, if_pos h4, if_pos ⟨h5, h6⟩]
theorem frL_shape (T : Tf) (r : List UInt8) : frL T ++ r = [33, 249, 4] ++ (UInt8.ofNat (flgN T.U) :: (pairL T.d ++ (UInt8.ofNat (clrN T.U) :: (picL T.W T.H ++ (UInt8.ofNat (128 + szOf T.U.length) :: (colT T.U (2 * 2 ^ szOf T.U.length) ++ (UInt8.ofNat (wdN T.U.length) :: (blkL (pakT T.U.length T.N) ++ r)))))))) := by
  unfold frL hdL picL
  simp only [List.append_assoc, List.cons_append, List.nil_append]
/-- A frame as it is read again. -/
def rdF (f : Fr) : Rf := ⟨f.d.toNat, (List.range f.n).map (clQ f.q)⟩
theorem right_nat {W H : Int} {n : Nat} (h : RightP W H n) : W.toNat * H.toNat = n ∧ 1 ≤ n := by
  obtain ⟨⟨a1, a2⟩, ⟨b1, b2⟩, c⟩ := h
  obtain ⟨x, rfl⟩ := Int.eq_ofNat_of_zero_le (show 0 ≤ W by omega)
  obtain ⟨y, rfl⟩ := Int.eq_ofNat_of_zero_le (show 0 ≤ H by omega)
  simp only [Int.toNat_natCast]
  have e : n = x * y := by exact_mod_cast c
  have := Nat.mul_le_mul (show 1 ≤ x by omega) (show 1 ≤ y by omega)
  omega
theorem clrN_lt {U : List Px} (h : U.length ≤ 256) : clrN U < 256 := by
  unfold clrN
  split
  · rename_i hp
    have := List.idxOf_lt_length_iff.2 hp
    omega
  · omega
theorem frA_frL {f g : Fr} (h : frE f g = 0) (hn : f.n ≤ 24000) (r : List UInt8) : frA f.W.toNat f.H.toNat (frL f.tf ++ r) = some (rdF f, r) := by
  obtain ⟨h1, _, _, h4, h5, h6, h7⟩ := frE_zero h
  obtain ⟨r1, r2⟩ := right_nat h1
  have ef : (UInt8.ofNat (flgN (ulk (clQ f.q) f.n))).toNat = flgN (ulk (clQ f.q) f.n) := byte_get (by unfold flgN; split <;> omega)
  have ec : (UInt8.ofNat (clrN (ulk (clQ f.q) f.n))).toNat = clrN (ulk (clQ f.q) f.n) := byte_get (clrN_lt h7)
  rw [frL_shape]
  unfold frA
  rw [pfx_app]
  show frB _ _ _ = _
  unfold frB
  show frC _ _ _ _ = _
  unfold frC
  rw [show f.tf.d = f.d.toNat from rfl, pairR_pairL _ (show f.d.toNat < 65536 by omega)]
  show frD _ _ _ _ _ = _
  unfold frD
  show frF _ _ _ _ _ _ = _
  unfold frF
  rw [show picL f.tf.W f.tf.H = picL f.W.toNat f.H.toNat from rfl, pfx_app]
  show frG _ _ _ _ _ _ = _
  unfold frG
  rw [colsR_colT f.tf.U h7]
  show frH _ _ _ _ _ _ _ = _
  unfold frH
  have hp := pixR_pak (clrU (flgN (ulk (clQ f.q) f.n)) (clrN (ulk (clQ f.q) f.n)) (colV (ulk (clQ f.q) f.n))) (ulk (clQ f.q) f.n).length (nmL (clQ f.q) f.n) r h7 (by rw [clrU_len, colV_len]; exact (szOf_le h7).2) (by rw [nmL_length]; exact r2) (by rw [nmL_length]; exact hn) (nmL_lt _ _)
  rw [nmL_length, pxO_told f.q f.n h6 h7] at hp
  rw [r1]
  show Option.map _ (pixR (clrU (UInt8.ofNat (flgN (ulk (clQ f.q) f.n))).toNat (UInt8.ofNat (clrN (ulk (clQ f.q) f.n))).toNat (colV (ulk (clQ f.q) f.n))) f.n (UInt8.ofNat (wdN (ulk (clQ f.q) f.n).length) :: (blkL (pakT (ulk (clQ f.q) f.n).length (nmL (clQ f.q) f.n)) ++ r))) = _
  rw [ef, ec, hp]
  rfl
theorem pfx_no (T : Tf) (r : List UInt8) : pfx [59] (frL T ++ r) = none := by
  rw [frL_shape]
  unfold pfx
  rw [if_neg (by simp [List.isPrefixOf])]
theorem pfx_no2 (T : Tf) (r l : List UInt8) : pfx (33 :: 255 :: l) (frL T ++ r) = none := by
  rw [frL_shape]
  unfold pfx
  rw [if_neg (by simp [List.isPrefixOf])]
theorem frsR_frsL (g : Fr) : ∀ (L : List Fr) (k : Nat), L.length ≤ k → (∀ f, f ∈ L → frE f g = 0 ∧ f.n ≤ 24000) → frsR g.W.toNat g.H.toNat k (frsL (L.map Fr.tf) ++ [59]) = some (L.map rdF)
  | [], k, _, _ => frsR_end (pfx_app [59] [])
  | f :: L, 0, hk, _ => by simp at hk
  | f :: L, k + 1, hk, h => by
    obtain ⟨h1, h2⟩ := h f (by simp)
    obtain ⟨_, w1, w2, _⟩ := frE_zero h1
    have e : frsL ((f :: L).map Fr.tf) ++ [59] = frL f.tf ++ (frsL (L.map Fr.tf) ++ [59]) := by
      show (frL f.tf ++ frsL (L.map Fr.tf)) ++ [59] = _
      rw [List.append_assoc]
    have ha := frA_frL h1 h2 (frsL (L.map Fr.tf) ++ [59])
    rw [w1, w2] at ha
    rw [e, frsR_step (pfx_no _ _) ha, frsR_frsL g L k (by simp at hk; omega) (fun f' hf => h f' (by simp [hf]))]
    rfl
theorem filA_gifL (g : Fr) (L : List Fr) (loops : Nat) (hl : loops < 65536) (hW : 1 ≤ g.W ∧ g.W ≤ 256) (hH : 1 ≤ g.H ∧ g.H ≤ 256) (hL : 1 ≤ L.length ∧ L.length ≤ 16) (h : ∀ f, f ∈ L → frE f g = 0 ∧ f.n ≤ 24000) :
    filA (gifL g.W.toNat g.H.toNat (L.map Fr.tf) loops) = some ⟨g.W.toNat, g.H.toNat, L.map rdF, if 1 < L.length then loops else 0⟩ := by
  have hr := frsR_frsL g L 16 hL.2 h
  have e : gifL g.W.toNat g.H.toNat (L.map Fr.tf) loops = [71, 73, 70, 56, 57, 97] ++ (pairL g.W.toNat ++ (pairL g.H.toNat ++ ([112, 0, 0] ++ ((if 1 < L.length then loopL loops else []) ++ (frsL (L.map Fr.tf) ++ [59]))))) := by
    unfold gifL beginL
    rw [List.length_map]
    simp only [List.append_assoc]
  rw [e]
  unfold filA
  rw [pfx_app]
  show filB _ = _
  unfold filB
  rw [sideR_pairL _ (by omega)]
  show filB2 _ _ = _
  unfold filB2
  rw [sideR_pairL _ (by omega)]
  show filC _ _ _ = _
  unfold filC
  rw [pfx_app]
  show filD _ _ _ = _
  unfold filD
  by_cases h1 : 1 < L.length
  · rw [if_pos h1, if_pos h1]
    rw [show loopL loops ++ (frsL (L.map Fr.tf) ++ [59]) = [33, 255, 11, 78, 69, 84, 83, 67, 65, 80, 69, 50, 46, 48, 3, 1] ++ (pairL loops ++ ([0] ++ (frsL (L.map Fr.tf) ++ [59]))) by unfold loopL; simp only [List.append_assoc], pfx_app]
    show filD1 _ _ _ = _
    unfold filD1
    rw [pairR_pairL _ hl]
    show filD2 _ _ _ _ = _
    unfold filD2
    rw [pfx_app]
    show filE _ _ _ _ = _
    unfold filE
    rw [hr]
    rfl
  · rw [if_neg h1, if_neg h1, List.nil_append]
    match L, hL, hr with
    | f :: L, _, hr =>
      rw [show frsL ((f :: L).map Fr.tf) ++ [59] = frL f.tf ++ (frsL (L.map Fr.tf) ++ [59]) by show (frL f.tf ++ frsL (L.map Fr.tf)) ++ [59] = _; rw [List.append_assoc]] at hr ⊢
      rw [pfx_no2]
      show filE _ _ _ _ = _
      unfold filE
      rw [hr]
      rfl

theorem ulk_congr {p q : Nat → Px} : ∀ n, (∀ k, k < n → p k = q k) → ulk p n = ulk q n
  | 0, _ => rfl
  | n + 1, h => by
    show addP (ulk p n) (p n) = addP (ulk q n) (q n)
    rw [ulk_congr n (fun k hk => h k (by omega)), h n (by omega)]
theorem nmL_congr {p q : Nat → Px} (n : Nat) (h : ∀ k, k < n → p k = q k) : nmL p n = nmL q n :=
  List.map_congr_left fun i hi => by
    have hi := List.mem_range.1 hi
    unfold nmb
    rw [ulk_congr (i + 1) (fun k hk => h k (by omega)), h i hi]
/-- A frame, cleaned: it is told as before. -/
def clF (W H : Nat) (f : Fr) : Fr := ⟨W, H, (rdF f).P.length, fun k => (rdF f).P.getD k default, ((rdF f).d : Nat)⟩
theorem clF_n (W H : Nat) (f : Fr) : (clF W H f).n = f.n := by show ((List.range f.n).map _).length = _; simp
theorem clF_q (W H : Nat) (f : Fr) {k : Nat} (h : k < f.n) : (clF W H f).q k = clQ f.q k := by
  show ((List.range f.n).map (clQ f.q)).getD k default = _
  rw [List.getD_eq_getElem?_getD, List.getElem?_map, List.getElem?_range h]
  rfl
theorem clF_cl (W H : Nat) (f : Fr) {k : Nat} (h : k < f.n) : clQ (clF W H f).q k = clQ f.q k := by
  show clP ((clF W H f).q k) = _
  rw [clF_q W H f h]
  exact clP_clP _
theorem clF_ok {f g : Fr} (h : frE f g = 0) (g' : Fr) (e1 : g'.W = g.W) (e2 : g'.H = g.H) : frE (clF f.W.toNat f.H.toNat f) g' = 0 ∧ (clF f.W.toNat f.H.toNat f).tf = f.tf := by
  obtain ⟨h1, h2, h3, h4, h5, h6, h7⟩ := frE_zero h
  have hu : ulk (clQ (clF f.W.toNat f.H.toNat f).q) (clF f.W.toNat f.H.toNat f).n = ulk (clQ f.q) f.n := by
    rw [clF_n]; exact ulk_congr _ fun k hk => clF_cl _ _ _ hk
  have hm : nmL (clQ (clF f.W.toNat f.H.toNat f).q) (clF f.W.toNat f.H.toNat f).n = nmL (clQ f.q) f.n := by
    rw [clF_n]; exact nmL_congr _ fun k hk => clF_cl _ _ _ hk
  have hw : (clF f.W.toNat f.H.toNat f).W = f.W := Int.toNat_of_nonneg (by have := h1.1; omega)
  have hh : (clF f.W.toNat f.H.toNat f).H = f.H := Int.toNat_of_nonneg (by have := h1.2.1; omega)
  have hd : (clF f.W.toNat f.H.toNat f).d = f.d := Int.toNat_of_nonneg h4
  refine ⟨frE_of (by rw [hw, hh, clF_n]; exact h1) (by rw [hw, h2, e1]) (by rw [hh, h3, e2]) (by rw [hd]; exact ⟨h4, h5⟩) (fun k hk => ?_) (by rw [hu]; exact h7), ?_⟩
  · rw [clF_n] at hk
    rw [clF_q _ _ _ hk]
    show (clP (f.q k)).a = 0 ∨ (clP (f.q k)).a = 255
    unfold clP
    split
    · exact .inl rfl
    · exact h6 k hk
  · unfold Fr.tf
    rw [hu, hm, hw, hh, hd]

/-- What is written is read: what the file tells. -/
theorem told_back (V : Nat → FrV) (n loops : Nat) (hl : loops < 65536) (hf : fewP n (V 0).f) (he : ∀ j, j < n → frE (V j).f (V 0).f = 0) (hn : (V 0).f.n ≤ 24000) :
    ∃ F : Fil, filA (gifL (V 0).f.W.toNat (V 0).f.H.toNat (tfsF V n) loops) = some F ∧ F.W = (V 0).f.W.toNat ∧ F.H = (V 0).f.H.toNat ∧ F.L.length = n ∧ F.loops = (if 1 < n then loops else 0) ∧ (∀ j, j < n → F.L[j]? = some (rdF (V j).f)) ∧
      ∀ U : Nat → FrV, (∀ j, j < F.L.length → ∃ f a c, F.L[j]? = some f ∧ U j = rfV F.W F.H f a c) → FilOk (gifL (V 0).f.W.toNat (V 0).f.H.toNat (tfsF V n) loops) F U := by
  have hn1 := hf.1
  obtain ⟨h1, _⟩ := frE_zero (he 0 (by omega))
  have hnj : ∀ j, j < n → (V j).f.n = (V 0).f.n := fun j hj => by
    obtain ⟨q1, q2, q3, _⟩ := frE_zero (he j hj)
    have a := right_nat q1
    have b := right_nat h1
    rw [← a.1, ← b.1, q2, q3]
  have hLl : ((List.range n).map fun i => (V i).f).length = n := by simp
  have e : tfsF V n = ((List.range n).map fun i => (V i).f).map Fr.tf := by unfold tfsF; rw [List.map_map]; rfl
  have hA := filA_gifL (V 0).f ((List.range n).map fun i => (V i).f) loops hl h1.1 h1.2.1 (by rw [hLl]; exact hn1) (fun f hf => by
    obtain ⟨j, hj, rfl⟩ := List.mem_map.1 hf
    have hj := List.mem_range.1 hj
    exact ⟨he j hj, by show (V j).f.n ≤ _; rw [hnj j hj]; exact hn⟩)
  rw [← e, hLl] at hA
  have hat : ∀ j, j < n → (((List.range n).map fun i => (V i).f).map rdF)[j]? = some (rdF (V j).f) := fun j hj => by
    rw [List.getElem?_map, List.getElem?_map, List.getElem?_range hj]; rfl
  refine ⟨_, hA, rfl, rfl, by simp, rfl, hat, fun U hU => ?_⟩
  have hU : ∀ j, j < n → (U j).f = clF (V 0).f.W.toNat (V 0).f.H.toNat (V j).f := fun j hj => by
    obtain ⟨f, a, c, q1, q2⟩ := hU j (by simp; exact hj)
    rw [hat j hj] at q1
    injection q1 with q1
    subst q1
    rw [q2]
    rfl
  have hU0 := hU 0 (by omega)
  have hc : ∀ j, j < n → frE (U j).f (U 0).f = 0 ∧ (U j).f.tf = (V j).f.tf := fun j hj => by
    obtain ⟨q1, q2, q3, _⟩ := frE_zero (he j hj)
    rw [hU j hj, hU0, ← q2, ← q3]
    exact clF_ok (he j hj) _ (by rw [q2]; exact Int.toNat_of_nonneg (by have := h1.1; omega)) (by rw [q3]; exact Int.toNat_of_nonneg (by have := h1.2.1; omega))
  have hW : (U 0).f.W = (V 0).f.W := by rw [hU0]; exact Int.toNat_of_nonneg (by have := h1.1; omega)
  have hH : (U 0).f.H = (V 0).f.H := by rw [hU0]; exact Int.toNat_of_nonneg (by have := h1.2.1; omega)
  have hN : (U 0).f.n = (V 0).f.n := by rw [hU0]; exact clF_n _ _ _
  have hlen : (((List.range n).map fun i => (V i).f).map rdF).length = n := by simp
  refine ⟨?_, ?_, ?_⟩
  · show fewP (((List.range n).map fun i => (V i).f).map rdF).length _
    rw [hlen]
    unfold fewP at hf ⊢
    rw [hW, hH, hN]
    exact hf
  · intro j hj
    exact (hc j (by rw [← hlen]; exact hj)).1
  · show gifL _ _ (tfsF U (((List.range n).map fun i => (V i).f).map rdF).length) _ = _
    rw [hlen, hW, hH]
    have : tfsF U n = tfsF V n := List.map_congr_left fun j hj => (hc j (List.mem_range.1 hj)).2
    rw [this]
    show gifL _ _ _ (if 1 < n then loops else 0) = _
    by_cases q : 1 < n
    · rw [if_pos q]
    · rw [if_neg q]
      unfold gifL
      have hl : (tfsF V n).length = n := by unfold tfsF; simp
      rw [hl, if_neg q, if_neg q]
end Go.Proofs.YtjcoahahponabaaGreatDoor
