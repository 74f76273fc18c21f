/- Walk of the program's Pack, where no number is too wide. Moving pictures: plain. Moving pictures: which color covers nothing, how many colors, as the document counts them. Plain. Moving pictures: small functions of the program. -/
import Derived.Test.YtjcoahahponabaaGreatDoorMh8
import Derived.Test.YtjcoahahponabaaGreatDoorMh1
import Derived.Test.YtjcoahahponabaaGreatDoorMh3
import Derived.Test.YtjcoahahponabaaGreatDoorTk1
import Derived.Test.YtjcoahahponabaaGreatDoorMh5
import Derived.Test.YtjcoahahponabaaGreatDoorMh4
namespace Go.Proofs.YtjcoahahponabaaGreatDoor
open Go.RowKit Lz Ps

theorem blank_of (s : ByteArray) (h : s.size = 0) : s = ⟨#[]⟩ := by
  apply text_ext
  apply List.eq_nil_of_length_eq_zero
  rw [size_list]; exact h

theorem packP_any (W : Nat) (s : ByteArray) (w : World) (hW2 : 2 ≤ W) (hW : W ≤ 8) (hs : s.size ≤ 100000) (hb : ∀ x ∈ s.data.toList, x.toNat < 2 ^ W) :
    Calls Tryz.prog 151 #[.pointer (some ⟨w.heap.size + 1, 0, none⟩), .string s] (newPk w W) fun e w' => e = .returned (.tuple #[]) ∧ WP w' (w.heap.size + 1) (packAll W s.data.toList) ∧ Below w.heap.size (newPk w W) w' := by
  obtain ⟨n1, n2, n3, n4⟩ := newPk_is w W
  rcases Nat.eq_zero_or_pos s.size with h | h
  · have := blank_of s h
    subst this
    refine (pack_none (w.heap.size + 1) W 0 0 (newPk w W) n1 n2 hW2 hW).mono ?_
    rintro e w' ⟨rfl, h1, h2⟩
    exact ⟨rfl, h1, h2.mono (by omega)⟩
  · refine pack_any (w.heap.size + 1) w.heap.size W 0 0 s (newPk w W) n1 n2 n3 ?_ (by omega) hW2 hW h hs hb
    have := LP.made w
    refine this.same ?_
    unfold newPk
    exact Below.heap_alloc _ _ _ (by simp)

theorem shr_zero (b W : Nat) (h : b < 2 ^ W) : (b : Int) / 2 ^ W = 0 := by
  have e : ((2 ^ W : Nat) : Int) = (2 : Int) ^ W := by simp
  rw [← e]
  have : (b : Int) / ((2 ^ W : Nat) : Int) = ((b / 2 ^ W : Nat) : Int) := by simp
  rw [this, Nat.div_eq_of_lt h]
  rfl

set_option maxHeartbeats 2000000 in
set_option maxRecDepth 100000 in
theorem pack_in (W : Nat) (s : ByteArray) (w : World) (hW2 : 2 ≤ W) (hW : W ≤ 8) (hs : s.size ≤ 100000) (hb : ∀ x ∈ s.data.toList, x.toNat < 2 ^ W) :
    Calls Tryz.prog 123 #[.string s, .int .i64 (W : Int)] w fun e w' => e = .returned (.tuple #[.string (textP (packAll W s.data.toList)), .nilIface]) ∧ Below w.heap.size w w' := by
  have H1 := hide (wide_yes W w hW2 hW)
  have H2 := hide (newPacker_any W w hW)
  have H3 := hide (packP_any W s w hW2 hW hs hb)
  have HB := hide (newPk_is w W).2.2.2
  have HBB := hide hb
  have hsl := size_list s
  have g0 : decide ((s.size : Int) > 300000) = false := by simp; omega
  have g0' : decide ((300000 : Int) < (s.size : Int)) = false := g0
  have g0n : decide (300000 < s.size) = false := by simp; omega
  have hW64 : decide ((W : Int) < 64) = true := by simp; omega
  clear hb
  go_enter Tryz.func123, Tryz.ntmps123
  go_wp2_with fail
  refine (unhide H1).mono ?_; rintro e w1 ⟨rfl, rfl⟩
  clear H1
  go_wp2
  go_loopw [19] (fun iv wr => ∃ i : Nat, iv = .int .i64 (i : Int) ∧ i ≤ s.size ∧ wr = w1) (fun iv _ => s.size - (intOf iv).toNat)
  case atStart => exact ⟨0, rfl, by omega, rfl⟩
  case round =>
    obtain ⟨i, rfl, hi, rfl⟩ := hrel
    by_cases hlt : i < s.size
    · have g1 : decide ((i : Int) < (s.size : Int)) = true := by simp; omega
      have g1n : decide (i < s.size) = true := by simp; omega
      have hii : (i : Int) < (s.size : Int) := by omega
      have hil : i < s.data.toList.length := by omega
      have hbe := byte_at s i hlt hil
      obtain ⟨n, hn⟩ : ∃ n, n = s[i].toNat := ⟨_, rfl⟩
      have zn : (s[i].toNat : Int) = (n : Int) := by rw [hn]
      have hn256 : n < 256 := by rw [hn]; exact s[i].toNat_lt
      have hsh : (n : Int) / 2 ^ W = 0 := shr_zero _ _ (by rw [hn, ← hbe]; exact unhide HBB _ (List.getElem_mem hil))
      clear hbe hn
      go_wp2
      go_roundw
      case rel => exact ⟨i + 1, by go_num, by omega, trivial⟩
      case measure => simp [intOf]; omega
    · have g1 : decide ((i : Int) < (s.size : Int)) = false := by simp; omega
      have g1n : decide (i < s.size) = false := by simp; omega
      go_wp2_with fail
      refine (unhide H2).mono ?_; rintro e w2 ⟨rfl, rfl⟩
      go_wp2_with fail
      refine (unhide H3).mono ?_; rintro e w3 ⟨rfl, hW3, hb3⟩
      have HX := hide (wtext_any _ _ _ hW3)
      have HB3 := hide ((unhide HB).trans hb3)
      obtain ⟨TX, hTX⟩ : ∃ TX, TX = textP (packAll W s.data.toList) := ⟨_, rfl⟩
      rw [← hTX] at HX
      have HTX := hide hTX
      clear hTX
      clear hW3 hb3 H2 H3 HB
      go_wp2_with fail
      refine (unhide HX).mono ?_; rintro e w4 ⟨rfl, rfl⟩
      go_wp2
      go_ret2
      exact ⟨by rw [← unhide HTX]; rfl, unhide HB3⟩
end Go.Proofs.YtjcoahahponabaaGreatDoor
namespace Go.Proofs.YtjcoahahponabaaGreatDoor
open Go.RowKit Lz

/-- A frame: its picture, how long it stays. -/
structure Fr where
  W : Int
  H : Int
  n : Nat
  q : Nat → Px
  d : Int
instance : Inhabited Fr := ⟨⟨0, 0, 0, fun _ => default, 0⟩⟩
def pz : Px := ⟨0, 0, 0, 0⟩
/-- What covers nothing has no color. -/
def clP (c : Px) : Px := if c.a = 0 then pz else c
def clQ (q : Nat → Px) : Nat → Px := fun k => clP (q k)
theorem clP_clP (c : Px) : clP (clP c) = clP c := by unfold clP; split <;> simp_all [pz]
theorem clP_zero {c : Px} (h : (clP c).a = 0) : clP c = pz := by unfold clP at h ⊢; split <;> simp_all
/-- All or nothing is covered. -/
def AN (q : Nat → Px) (n : Nat) : Prop := ∀ k, k < n → (q k).a = 0 ∨ (q k).a = 255
instance (q : Nat → Px) (n : Nat) : Decidable (AN q n) := by unfold AN; infer_instance
/-- Two bytes of a number, the lower first. -/
def pairL (n : Nat) : List UInt8 := [UInt8.ofNat n, UInt8.ofNat (n / 256)]
/-- How great a list of so many colors must be. -/
def szG : Nat → Nat → Nat → Nat
  | 0, s, _ => s
  | f + 1, s, K => if K ≤ 2 * 2 ^ s then s else szG f (s + 1) K
def szOf (K : Nat) : Nat := szG 8 0 K
theorem szG_step (f s K : Nat) (h : ¬ K ≤ 2 * 2 ^ s) : szG (f + 1) s K = szG f (s + 1) K := by unfold szG; rw [if_neg h]; cases f <;> rfl
theorem szG_done (f s K : Nat) (h : K ≤ 2 * 2 ^ s) : szG f s K = s := by
  cases f with
  | zero => rfl
  | succ f => unfold szG; rw [if_pos h]
theorem szG_le : ∀ f s K, s + f = 8 → s ≤ 7 → K ≤ 256 → szG f s K ≤ 7 ∧ K ≤ 2 * 2 ^ szG f s K
  | 0, s, K, h1, h2, _ => by omega
  | f + 1, s, K, h1, h2, h3 => by
    by_cases h : K ≤ 2 * 2 ^ s
    · rw [szG_done _ _ _ h]; exact ⟨h2, h⟩
    · rw [szG_step _ _ _ h]
      rcases Nat.lt_or_ge s 7 with q | q
      · exact szG_le f (s + 1) K (by omega) (by omega) h3
      · have e : s = 7 := by omega
        subst e
        omega
theorem szOf_le {K : Nat} (h : K ≤ 256) : szOf K ≤ 7 ∧ K ≤ 2 * 2 ^ szOf K := szG_le 8 0 K rfl (by omega) h
/-- The colors as bytes. -/
def rgbL (c : Px) : List UInt8 := [c.r, c.g, c.b]
def colT (U : List Px) : Nat → List UInt8
  | 0 => []
  | k + 1 => colT U k ++ rgbL (U.getD k pz)
theorem colT_len (U : List Px) (k : Nat) : (colT U k).length = 3 * k := by
  induction k with
  | zero => rfl
  | succ k ih => unfold colT; rw [List.length_append, ih]; show _ + 3 = _; omega
/-- Which color covers nothing, and whether there is one. -/
def clrN (U : List Px) : Nat := if pz ∈ U then U.idxOf pz else 0
def flgN (U : List Px) : Nat := if pz ∈ U then 9 else 8
def wdN (K : Nat) : Nat := max (szOf K + 1) 2
/-- The numbers as bytes. -/
def numL (N : List Nat) : List UInt8 := N.map UInt8.ofNat
def pakT (K : Nat) (N : List Nat) : ByteArray := textP (packAll (wdN K) (numL N))
def blkL (s : ByteArray) : List UInt8 := blocksL s.size s.data.toList
/-- A frame as it is told. -/
structure Tf where
  W : Nat
  H : Nat
  d : Nat
  U : List Px
  N : List Nat
instance : Inhabited Tf := ⟨⟨0, 0, 0, [], []⟩⟩
def hdL (T : Tf) : List UInt8 := [33, 249, 4] ++ ([UInt8.ofNat (flgN T.U)] ++ (pairL T.d ++ ([UInt8.ofNat (clrN T.U)] ++ ([0, 44, 0, 0, 0, 0] ++ (pairL T.W ++ (pairL T.H ++ [UInt8.ofNat (128 + szOf T.U.length)]))))))
def frL (T : Tf) : List UInt8 := hdL T ++ (colT T.U (2 * 2 ^ szOf T.U.length) ++ ([UInt8.ofNat (wdN T.U.length)] ++ blkL (pakT T.U.length T.N)))
def loopL (n : Nat) : List UInt8 := [33, 255, 11, 78, 69, 84, 83, 67, 65, 80, 69, 50, 46, 48, 3, 1] ++ (pairL n ++ [0])
def frsL : List Tf → List UInt8
  | [] => []
  | T :: l => frL T ++ frsL l
theorem frsL_app (l m : List Tf) : frsL (l ++ m) = frsL l ++ frsL m := by
  induction l with
  | nil => rfl
  | cons T l ih => show frL T ++ frsL (l ++ m) = (frL T ++ frsL l) ++ frsL m; rw [ih, List.append_assoc]
def beginL (W H : Nat) : List UInt8 := [71, 73, 70, 56, 57, 97] ++ (pairL W ++ (pairL H ++ [112, 0, 0]))
/-- The whole. -/
def gifL (W H : Nat) (l : List Tf) (loops : Nat) : List UInt8 := beginL W H ++ ((if 1 < l.length then loopL loops else []) ++ (frsL l ++ [59]))
/-- A frame that may be told. -/
structure TfOk (T : Tf) : Prop where
  W : 1 ≤ T.W ∧ T.W ≤ 256
  H : 1 ≤ T.H ∧ T.H ≤ 256
  d : T.d ≤ 65535
  K : T.U.length ≤ 256
  K1 : 1 ≤ T.U.length
  n : T.N.length ≤ 65536
  N : ∀ x, x ∈ T.N → x < T.U.length
/-- How a frame is told. -/
def Fr.tf (f : Fr) : Tf := ⟨f.W.toNat, f.H.toNat, f.d.toNat, ulk (clQ f.q) f.n, nmL (clQ f.q) f.n⟩
/-- What is wrong with a frame: its number. -/
def frE (f g : Fr) : Nat :=
  if RightP f.W f.H f.n ∧ f.W = g.W ∧ f.H = g.H then
    (if 0 ≤ f.d ∧ f.d ≤ 65535 then (if AN f.q f.n ∧ (ulk (clQ f.q) f.n).length ≤ 256 then 0 else 7) else 2) else 3
end Go.Proofs.YtjcoahahponabaaGreatDoor
namespace Go.Proofs.YtjcoahahponabaaGreatDoor
open Go.RowKit

theorem default_pz : (default : Px) = pz := rfl
/-- The last color that covers nothing among the first. -/
def clI (U : List Px) (k : Nat) : Int := if pz ∈ U.take k then (U.idxOf pz : Int) else -1
theorem clI_zero (U : List Px) : clI U 0 = -1 := by unfold clI; simp
theorem clI_hit {U : List Px} (hU : U.Nodup) {k : Nat} (hk : k < U.length) (h : U.getD k default = pz) : clI U (k + 1) = (k : Int) := by
  have e : U[k] = pz := by rw [← h, List.getD_eq_getElem?_getD, List.getElem?_eq_getElem hk]; rfl
  have hm : pz ∈ U.take (k + 1) := by
    rw [List.mem_take_iff_getElem]
    exact ⟨k, by omega, e⟩
  unfold clI
  rw [if_pos hm]
  have : U.idxOf pz = k := by
    rw [← e]
    exact List.Nodup.idxOf_getElem hU k hk
  rw [this]
theorem clI_miss {U : List Px} {k : Nat} (hk : k < U.length) (h : U.getD k default ≠ pz) : clI U (k + 1) = clI U k := by
  have e : U[k] ≠ pz := fun q => h (by rw [List.getD_eq_getElem?_getD, List.getElem?_eq_getElem hk]; exact q)
  have hi : pz ∈ U.take (k + 1) ↔ pz ∈ U.take k := by
    rw [List.take_add_one, List.mem_append, List.getElem?_eq_getElem hk]
    simp only [Option.toList_some, List.mem_singleton]
    exact ⟨fun q => q.resolve_right (fun x => e x.symm), .inl⟩
  unfold clI
  by_cases q : pz ∈ U.take k
  · rw [if_pos q, if_pos (hi.2 q)]
  · rw [if_neg q, if_neg (fun x => q (hi.1 x))]
theorem clI_all (U : List Px) : clI U U.length = if pz ∈ U then (U.idxOf pz : Int) else -1 := by unfold clI; rw [List.take_length]
theorem mem_clQ {q : Nat → Px} {n : Nat} {c : Px} (h : c ∈ ulk (clQ q) n) (ha : c.a = 0) : c = pz := by
  have : ∀ n, ∀ x, x ∈ ulk (clQ q) n → ∃ i, x = clQ q i := fun n => by
    induction n with
    | zero => intro x hx; cases hx
    | succ n ih =>
      intro x hx
      have hx : x ∈ addP (ulk (clQ q) n) (clQ q n) := hx
      unfold addP at hx
      split at hx
      · exact ih x hx
      · rcases List.mem_append.1 hx with hx | hx
        · exact ih x hx
        · exact ⟨n, by simpa using hx⟩
  obtain ⟨i, rfl⟩ := this n c h
  exact clP_zero ha
theorem szOf_at {K s : Nat} (h : szG (8 - s) s K = szOf K) (hs : s ≤ 7) (hK : ¬ K ≤ 2 * 2 ^ s) : szG (8 - (s + 1)) (s + 1) K = szOf K := by
  rw [← h, show 8 - s = (8 - (s + 1)) + 1 by omega, szG_step _ _ _ hK]
theorem two_lt {K s : Nat} (hs : s ≤ 7) (hK : ¬ K ≤ 2 * 2 ^ s) (h : K ≤ 256) : s + 1 ≤ 7 := by
  rcases (show s = 0 ∨ s = 1 ∨ s = 2 ∨ s = 3 ∨ s = 4 ∨ s = 5 ∨ s = 6 ∨ s = 7 by omega) with rfl | rfl | rfl | rfl | rfl | rfl | rfl | rfl <;> simp at hK <;> omega
theorem clrN_lt2 {U : List Px} (h : U.length ≤ 256) : clrN U < 256 := by
  unfold clrN
  split
  · rename_i hp
    have := List.idxOf_lt_length_iff.2 hp
    omega
  · omega
theorem wdN_two (K : Nat) : (szOf K + 1 < 2 → wdN K = 2) ∧ (¬ szOf K + 1 < 2 → wdN K = szOf K + 1) := by
  unfold wdN
  omega
end Go.Proofs.YtjcoahahponabaaGreatDoor
namespace Go.Proofs.YtjcoahahponabaaGreatDoor
open Go.RowKit Lz

theorem bel_atG {B : Nat} {w w' : World} (h : B = w.heap.size) (hb : Below B w w') : Below w.heap.size w w' := h ▸ hb
theorem isPair_any (n : Int) (w : World) :
    Calls Tryz.prog 87 #[.int .i64 n] w fun e w' => e = .returned (.bool (decide (0 ≤ n ∧ n ≤ 65535))) ∧ w' = w := by
  by_cases h1 : 0 ≤ n
  · have d1 : decide (n ≥ 0) = true := decide_eq_true h1
    have d1' : decide (0 ≤ n) = true := decide_eq_true h1
    by_cases h2 : n ≤ 65535
    · have d2 : decide (n ≤ 65535) = true := decide_eq_true h2
      rw [decide_eq_true (⟨h1, h2⟩ : 0 ≤ n ∧ n ≤ 65535)]
      clear h1 h2
      go_enter Tryz.func87, Tryz.ntmps87
      go_wp2
      go_ret
      exact ⟨rfl, rfl⟩
    · have d2 : decide (n ≤ 65535) = false := decide_eq_false h2
      rw [decide_eq_false (fun q : 0 ≤ n ∧ n ≤ 65535 => h2 q.2)]
      clear h1 h2
      go_enter Tryz.func87, Tryz.ntmps87
      go_wp2
      go_ret
      exact ⟨rfl, rfl⟩
  · have d1 : decide (n ≥ 0) = false := decide_eq_false h1
    have d1' : decide (0 ≤ n) = false := decide_eq_false h1
    rw [decide_eq_false (fun q : 0 ≤ n ∧ n ≤ 65535 => h1 q.1)]
    clear h1
    go_enter Tryz.func87, Tryz.ntmps87
    go_wp2
    go_ret
    exact ⟨rfl, rfl⟩

theorem u8_key (m : Nat) : UInt8.ofNat m = UInt8.ofNat (m % 256) := by
  apply UInt8.toNat_inj.1
  rw [UInt8.toNat_ofNat', UInt8.toNat_ofNat']
  omega
theorem u8_nat (m : Nat) (h : m < 256) : (UInt8.ofNat m).toNat = m := by rw [UInt8.toNat_ofNat']; omega

set_option maxHeartbeats 1000000 in
theorem gpair_any (n : Nat) (w : World) (hn : n < 65536) :
    Calls Tryz.prog 93 #[.int .i64 (n : Int)] w fun e w' => e = .returned (.string ⟨(pairL n).toArray⟩) ∧ Below w.heap.size w w' := by
  obtain ⟨a, ha⟩ : ∃ a, a = n / 256 := ⟨_, rfl⟩
  obtain ⟨d, hd⟩ : ∃ d, d = n % 256 := ⟨_, rfl⟩
  have e1 : (n : Int) / 256 = (a : Int) := by omega
  have e0 : (a : Int) % 256 = (a : Int) := by omega
  have e6 : (n : Int) % 256 = (d : Int) := by omega
  have l1 : a < 256 := by omega
  have l4 : d < 256 := by omega
  have hbe : pairL n = [UInt8.ofNat d, UInt8.ofNat a] := by unfold pairL; rw [hd, ha, ← u8_key]
  have hcv := own_text (w.alloc (.cells #[.int .u8 (d : Int), .int .u8 (a : Int)] 5)) w.heap.size (.slice (some ⟨w.heap.size, 0, none⟩) 2 2) 2 (pairL n) (by
    have := World.ownsRow_lit (base := w.heap.size) (e := 5) (size := 1) w #[.int .u8 (d : Int), .int .u8 (a : Int)] 2 (Nat.le_refl _) (by decide) rfl
    rw [hbe]
    simpa [byteVals, u8_nat a l1, u8_nat d l4] using this)
  clear ha hd hbe
  generalize pairL n = dd at *
  go_enter Tryz.func93, Tryz.ntmps93
  go_wp2
  go_ret
  exact ⟨rfl, (Below.refl _ _).alloc (Nat.le_refl _) _⟩

theorem roomOf_any (s : Nat) (w : World) (hs : s ≤ 8) :
    Calls Tryz.prog 148 #[.int .i64 (s : Int)] w fun e w' => e = .returned (.int .i64 ((2 * 2 ^ s : Nat) : Int)) ∧ w' = w := by
  have h : s = 0 ∨ s = 1 ∨ s = 2 ∨ s = 3 ∨ s = 4 ∨ s = 5 ∨ s = 6 ∨ s = 7 ∨ s = 8 := by omega
  clear hs
  rcases h with rfl | rfl | rfl | rfl | rfl | rfl | rfl | rfl | rfl
  all_goals
    go_enter Tryz.func148, Tryz.ntmps148
    go_wp2
    go_ret
    exact ⟨rfl, rfl⟩

set_option maxHeartbeats 4000000 in
set_option maxRecDepth 100000 in
theorem gsize_any (W H d : Int) (a1 a2 : Option Addr) (K c1 n c2 : Nat) (w : World) (hK : K ≤ 256) :
    Calls Tryz.prog 122 #[.agg #[.int .i64 W, .int .i64 H, .int .i64 d, .slice a1 K c1, .slice a2 n c2]] w fun e w' => e = .returned (.int .i64 (szOf K : Int)) ∧ Below w.heap.size w w' := by
  have HR := hide (fun s (hs : s ≤ 8) w => roomOf_any s w hs)
  have hHA := hide (al1 w (.cells #[.int .i64 W, .int .i64 H, .int .i64 d, .slice a1 K c1, .slice a2 n c2] 98))
  obtain ⟨B, hB⟩ : ∃ B, B = w.heap.size := ⟨_, rfl⟩
  obtain ⟨Z, hZ⟩ : ∃ Z, Z = szOf K := ⟨_, rfl⟩
  rw [← hZ]
  have HZ : Hid (Z = szG (8 - 0) 0 K) := hZ
  clear hZ
  go_enter Tryz.func122, Tryz.ntmps122
  go_wp2_with fail
  generalize w.alloc (.cells #[.int .i64 W, .int .i64 H, .int .i64 d, .slice a1 K c1, .slice a2 n c2] 98) = w1 at *
  rw [← hB] at hHA ⊢
  obtain ⟨hs0, kB, hb0⟩ := unhide hHA
  have HB := hide hb0
  have HBE := hide hB
  have HK := hide kB
  clear hHA hb0 hs0 hB kB
  go_loopw [3] (fun sv wr => ∃ s : Nat, sv = .int .i64 (s : Int) ∧ s ≤ 7 ∧ Hid (Z = szG (8 - s) s K) ∧ Hid (Below B w wr) ∧ Hid (wr.heap[B]? = some (.cells #[.int .i64 W, .int .i64 H, .int .i64 d, .slice a1 K c1, .slice a2 n c2] 98))) (fun sv _ => 8 - (intOf sv).toNat)
  case atStart => exact ⟨0, rfl, by omega, HZ, HB, HK⟩
  case round =>
    clear HZ HB HK
    obtain ⟨s, rfl, hs, HZs, HB, HK⟩ := hrel
    have HC := hide (unhide HR s (by omega))
    have d3 : wr.cell? ⟨B, 3, none⟩ = some (.slice a1 K c1) := blk_cell (unhide HK) 3
    have HX : Hid (szG (8 - s) s K ≤ 7 ∧ K ≤ 2 * 2 ^ szG (8 - s) s K) := szG_le _ _ _ (by omega) hs hK
    by_cases h : K ≤ 2 * 2 ^ s
    · have HF : Hid (Z = s) := by show _ = _; rw [unhide HZs, szG_done _ _ _ h]
      obtain ⟨X, hX⟩ : ∃ X, X = 2 * 2 ^ s := ⟨_, rfl⟩
      rw [← hX] at HC h
      have g1 : decide ((X : Int) < (K : Int)) = false := decide_eq_false (by omega)
      have g1n : decide (X < K) = false := decide_eq_false (by omega)
      clear hX h HZs HR
      go_wp2
      go_quiet ((go_at_call 148; exact Calls.quiet_of_same (unhide HC _)))
      go_wp2
      go_ret
      exact ⟨by rw [unhide HF]; rfl, bel_atG (unhide HBE) (belowD (unhide HB))⟩
    · have h7 : s < 7 := by
        have hq := unhide HX
        rcases Nat.lt_or_ge s 7 with q | q
        · exact q
        · have e : s = 7 := by omega
          subst e
          exact absurd (show K ≤ 2 * 2 ^ 7 by omega) h
      have HF : Hid (Z = szG (8 - (s + 1)) (s + 1) K) := by
        show _ = _
        rw [unhide HZs, show 8 - s = (8 - (s + 1)) + 1 by omega, szG_step _ _ _ h]
      obtain ⟨X, hX⟩ : ∃ X, X = 2 * 2 ^ s := ⟨_, rfl⟩
      rw [← hX] at HC h
      have g1 : decide ((X : Int) < (K : Int)) = true := decide_eq_true (by omega)
      have g1n : decide (X < K) = true := decide_eq_true (by omega)
      clear hX h HZs HR
      go_wp2
      go_quiet ((go_at_call 148; exact Calls.quiet_of_same (unhide HC _)))
      go_wp2
      go_roundw
      case rel => exact ⟨s + 1, by go_num, by omega, HF, belowD (unhide HB), unhide HK⟩
      case measure => simp [intOf]; omega

theorem idx_is {U : List Px} {k : Nat} {x : Px} (h : U[k]? = some x) (hb : ∀ j, j < k → U[j]? ≠ some x) : U.idxOf x = k := idx_at h hb
/-- Where what covers nothing is: -1 if it isn't there. -/
def clrZ (U : List Px) : Int := if pz ∈ U then (U.idxOf pz : Int) else -1

set_option maxHeartbeats 4000000 in
set_option maxRecDepth 100000 in
theorem gindex_any (a : Option Addr) (K c : Nat) (U : List Px) (w : World) (hU : IsPx w a K (fun i => U.getD i default)) (hl : U.length = K) (hK : K ≤ 256) :
    Calls Tryz.prog 121 #[.slice a K c, .agg #[.int .u8 0, .int .u8 0, .int .u8 0, .int .u8 0]] w fun e w' => e = .returned (.int .i64 (clrZ U)) ∧ Below w.heap.size w w' := by
  have hHA := hide (al1 w (.cells #[.int .u8 0, .int .u8 0, .int .u8 0, .int .u8 0] 78))
  have HU := hide (fun wr (hb : Below w.heap.size w wr) => hU.below hb)
  have HL := hide hl
  obtain ⟨B, hB⟩ : ∃ B, B = w.heap.size := ⟨_, rfl⟩
  clear hU hl
  go_enter Tryz.func121, Tryz.ntmps121
  go_wp2_with fail
  generalize w.alloc (.cells #[.int .u8 0, .int .u8 0, .int .u8 0, .int .u8 0] 78) = w1 at *
  rw [← hB] at hHA HU ⊢
  obtain ⟨hs0, kB, hb0⟩ := unhide hHA
  have HB := hide hb0
  have HBE := hide hB
  have HK := hide kB
  clear hHA hb0 hs0 hB kB
  go_loopw [8] (fun kv wr => ∃ k : Nat, k ≤ K ∧ kv = .int .i64 (k : Int) ∧ Hid (∀ j, j < k → U[j]? ≠ some pz) ∧ Hid (Below B w wr) ∧ Hid (wr.heap[B]? = some (.cells #[.int .u8 0, .int .u8 0, .int .u8 0, .int .u8 0] 78))) (fun kv _ => K - (intOf kv).toNat)
  case atStart => exact ⟨0, Nat.zero_le _, rfl, fun j hj => absurd hj (Nat.not_lt_zero j), HB, HK⟩
  case round =>
    clear HB HK
    obtain ⟨k, hk, rfl, HN, HB, HK⟩ := hrel
    by_cases hlt : k < K
    · have g1 : decide ((k : Int) < (K : Int)) = true := decide_eq_true (by omega)
      have g1n : decide (k < K) = true := decide_eq_true hlt
      have hki : (k : Int) < (K : Int) := by omega
      obtain ⟨b, o, rfl, _, hc⟩ := (unhide HU wr (unhide HB)).resolve_left (by omega)
      have hlk : U[k]? = some (U.getD k default) := by
        have := unhide HL
        rw [List.getElem?_eq_getElem (by omega), List.getD_eq_getElem?_getD, List.getElem?_eq_getElem (by omega)]; rfl
      have HLK := hide hlk
      obtain ⟨y0, y1, y2, y3⟩ := hc k hlt
      simp only at y0 y1 y2 y3
      have k0 := unhide HK
      have x0 := blk_cell k0 0
      have x1 := blk_cell k0 1
      have x2 := blk_cell k0 2
      have x3 := blk_cell k0 3
      simp only [List.getElem?_toArray, List.getElem?_cons_zero, List.getElem?_cons_succ] at x0 x1 x2 x3
      clear hlk hc k0
      generalize U.getD k default = y at *
      rcases px_parts pz y with rfl | ⟨hne, h⟩
      · have HIX : Hid (clrZ U = (k : Int)) := by
          show _ = _
          have hin : pz ∈ U := List.mem_of_getElem? (unhide HLK)
          unfold clrZ
          rw [if_pos hin, idx_is (unhide HLK) (unhide HN)]
        have z0 : wr.cell? ⟨b, o + k * 4, none⟩ = some (.int .u8 0) := y0
        have z1 : wr.cell? ⟨b, o + k * 4 + 1, none⟩ = some (.int .u8 0) := y1
        have z2 : wr.cell? ⟨b, o + k * 4 + 2, none⟩ = some (.int .u8 0) := y2
        have z3 : wr.cell? ⟨b, o + k * 4 + 3, none⟩ = some (.int .u8 0) := y3
        clear HN HLK HL HU y0 y1 y2 y3
        go_wp2
        go_quiet (fail)
        go_wp2
        go_ret
        exact ⟨by rw [unhide HIX]; rfl, bel_atG (unhide HBE) (belowD (unhide HB))⟩
      · have HN2 : Hid (∀ j, j < k + 1 → U[j]? ≠ some pz) := fun j hj => by
          rcases Nat.lt_succ_iff_lt_or_eq.1 hj with q | rfl
          · exact unhide HN j q
          · rw [unhide HLK]; exact fun e => hne (by injection e with e; exact e.symm)
        clear HN HLK hne
        have h : (¬ (0 : Int) = y.r.toNat) ∨ ((0 : Int) = y.r.toNat ∧ ¬ (0 : Int) = y.g.toNat) ∨ ((0 : Int) = y.r.toNat ∧ (0 : Int) = y.g.toNat ∧ ¬ (0 : Int) = y.b.toNat) ∨ ((0 : Int) = y.r.toNat ∧ (0 : Int) = y.g.toNat ∧ (0 : Int) = y.b.toNat ∧ ¬ (0 : Int) = y.a.toNat) := h
        generalize (y.r.toNat : Int) = yr at *
        generalize (y.g.toNat : Int) = yg at *
        generalize (y.b.toNat : Int) = yb at *
        generalize (y.a.toNat : Int) = ya at *
        rcases h with h1 | ⟨h1, h2⟩ | ⟨h1, h2, h3⟩ | ⟨h1, h2, h3, h4⟩
        all_goals
          go_wp2
          go_quiet (fail)
          go_wp2
          go_roundw
          case rel => exact ⟨k + 1, by omega, by go_num, HN2, belowD (unhide HB), unhide HK⟩
          case measure => simp [intOf]; omega
    · obtain rfl : k = K := by omega
      have g1 : decide ((k : Int) < (k : Int)) = false := by simp
      have HIX : Hid (clrZ U = -1) := by
        show _ = _
        unfold clrZ
        rw [if_neg (not_in (fun j hj => unhide HN j (by have := unhide HL; omega)))]
      clear HN HL HU
      go_wp2
      go_ret
      exact ⟨by rw [unhide HIX]; rfl, bel_atG (unhide HBE) (unhide HB)⟩
end Go.Proofs.YtjcoahahponabaaGreatDoor
