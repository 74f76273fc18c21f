/- Tokens that cover a text mean it. What Tokens answers, as a row of tokens; Tokens and Fewest of windows that may not be. Walk: Deflate, of a text that is not long. One byte more of a text. Plain facts on ADLER's two sums over natural numbers. Walks of ADLER's functions, the program's and the document's. Walk: Zip, of a text that is not long. -/
import Derived.Test.YtfeljhikeddodaeGreatDoorMz7
import Derived.Test.YtfeljhikeddodaeGreatDoorMg25
import Derived.Test.YtfeljhikeddodaeGreatDoorChecked
import Derived.Test.YtfeljhikeddodaeGreatDoorMg1
import Derived.WalkKit
import Derived.WalkLawsBesides
import Derived.WalkSpells
import Derived.Handy
import Derived.Laws.BitsAllLaws
import Derived.Laws.Shifts
import Derived.Deep.LoopGhost
namespace Go.Proofs.YtfeljhikeddodaeGreatDoor
open Go.RowKit Mm

/-- Tokens as a row that came in. -/
def tks (ts : List (Nat × Nat × Nat)) : Tks := ⟨fun i => (ts.getD i (0, 0, 0)).1, fun i => ((ts.getD i (0, 0, 0)).2.1 : Int), fun i => ((ts.getD i (0, 0, 0)).2.2 : Int)⟩
theorem getD_left {α : Type} (ts us : List α) (d : α) (i : Nat) (h : i < ts.length) : (ts ++ us).getD i d = ts.getD i d := by
  simp [List.getD, List.getElem?_append_left h]
theorem getD_last {α : Type} (ts : List α) (u d : α) : (ts ++ [u]).getD ts.length d = u := by
  simp [List.getD]
theorem tks_out (ts us : List (Nat × Nat × Nat)) (i : Nat) (h : i ≤ ts.length) : (tks (ts ++ us)).out i = (tks ts).out i := by
  induction i with
  | zero => rfl
  | succ i ih =>
    have e := getD_left ts us (0, 0, 0) i (by omega)
    have g : (tks (ts ++ us)).out (i + 1) = if (tks (ts ++ us)).l i = 0 then (tks (ts ++ us)).out i ++ [UInt8.ofNat ((tks (ts ++ us)).b i)] else cpy ((tks (ts ++ us)).out i) ((tks (ts ++ us)).d i).toNat ((tks (ts ++ us)).l i).toNat := rfl
    have g2 : (tks ts).out (i + 1) = if (tks ts).l i = 0 then (tks ts).out i ++ [UInt8.ofNat ((tks ts).b i)] else cpy ((tks ts).out i) ((tks ts).d i).toNat ((tks ts).l i).toNat := rfl
    have el : (tks (ts ++ us)).l i = (tks ts).l i := by show ((_ : Nat) : Int) = ((_ : Nat) : Int); rw [e]
    have ed : (tks (ts ++ us)).d i = (tks ts).d i := by show ((_ : Nat) : Int) = ((_ : Nat) : Int); rw [e]
    have eb : (tks (ts ++ us)).b i = (tks ts).b i := by show Prod.fst _ = Prod.fst _; rw [e]
    rw [g, g2, el, ed, eb, ih (by omega)]
theorem byt_list (s : ByteArray) (i : Nat) (h : i < s.size) : s.data.toList[i]? = some (UInt8.ofNat (byt s i)) := by
  have hz : s.data.toList.length = s.size := Array.length_toList
  rw [byt_at s i h, List.getElem?_eq_getElem (by omega)]
  congr 1
  rw [UInt8.ofNat_toNat]
  rfl
theorem take_next (s : ByteArray) (i : Nat) (h : i < s.size) : s.data.toList.take (i + 1) = s.data.toList.take i ++ [UInt8.ofNat (byt s i)] := by
  rw [List.take_add_one, byt_list s i h]
  rfl
theorem cpy_take (s : ByteArray) (a b : Nat) (hb : 1 ≤ b) (hba : b ≤ a) : ∀ l, a + l ≤ s.size → (∀ i, i < l → byt s (a - b + i) = byt s (a + i)) → cpy (s.data.toList.take a) b l = s.data.toList.take (a + l) := by
  intro l
  induction l with
  | zero => intro _ _; rfl
  | succ l ih =>
    intro h1 h2
    have hz : s.data.toList.length = s.size := Array.length_toList
    rw [cpy, ih (by omega) (fun i hi => h2 i (by omega)), List.length_take, hz, Nat.min_eq_left (by omega), ← Nat.add_assoc, take_next s (a + l) (by omega), ← h2 l (by omega)]
    congr 2
    rw [List.getD_eq_getElem?_getD, List.getElem?_take, if_pos (by omega), show a + l - b = a - b + l by omega, byt_list s (a - b + l) (by omega)]
    rfl
theorem Cov.means {s : ByteArray} {win a : Nat} {ts : List (Nat × Nat × Nat)} (hw : win ≤ 32768) (h : Cov s win a ts) : a ≤ s.size ∧ (tks ts).out ts.length = s.data.toList.take a ∧ ∀ i, i < ts.length → (tks ts).good i ∧ (tks ts).d i ≤ (win : Int) ∧ (tks ts).b i < 256 := by
  induction h with
  | nil => exact ⟨Nat.zero_le _, rfl, fun i hi => absurd hi (by simp)⟩
  | @snoc a l b ts h ha hl ih =>
    obtain ⟨i1, i2, i3⟩ := ih
    have hz := hl.size ha
    have hsz : s.data.toList.length = s.size := Array.length_toList
    have e0 := getD_last ts (tk s a l b) (0, 0, 0)
    have ho : (tks (ts ++ [tk s a l b])).out ts.length = s.data.toList.take a := by rw [tks_out _ _ _ (Nat.le_refl _), i2]
    have g : (tks (ts ++ [tk s a l b])).out (ts.length + 1) = if (tks (ts ++ [tk s a l b])).l ts.length = 0 then (tks (ts ++ [tk s a l b])).out ts.length ++ [UInt8.ofNat ((tks (ts ++ [tk s a l b])).b ts.length)] else cpy ((tks (ts ++ [tk s a l b])).out ts.length) ((tks (ts ++ [tk s a l b])).d ts.length).toNat ((tks (ts ++ [tk s a l b])).l ts.length).toNat := rfl
    have el : (tks (ts ++ [tk s a l b])).l ts.length = (((tk s a l b).2.1 : Nat) : Int) := by show ((_ : Nat) : Int) = _; rw [e0]
    have ed : (tks (ts ++ [tk s a l b])).d ts.length = (((tk s a l b).2.2 : Nat) : Int) := by show ((_ : Nat) : Int) = _; rw [e0]
    have eb : (tks (ts ++ [tk s a l b])).b ts.length = (tk s a l b).1 := by show Prod.fst _ = _; rw [e0]
    refine ⟨hz.1, ?_, fun i hi => ?_⟩
    · rw [List.length_append, List.length_singleton, g, ho, el, ed, eb]
      unfold tk
      rcases hl.good with ⟨q1, q2⟩ | ⟨q1, q2, q3, q4, q5, q6⟩
      · subst q1
        simp only [if_true]
        rw [show a + max 1 0 = a + 1 by omega, take_next s a ha]
        rfl
      · have z1 : ¬ l = 0 := by omega
        have z2 : ¬ (l : Int) = 0 := by omega
        rw [if_neg z1, if_neg z2]
        show cpy _ ((b : Int)).toNat ((l : Int)).toNat = _
        rw [Int.toNat_natCast, Int.toNat_natCast, cpy_take s a b q3 q5 l (by omega) q6, show a + max 1 l = a + l by omega]
    · rw [List.length_append, List.length_singleton] at hi
      by_cases hlt : i < ts.length
      · have e := getD_left ts [tk s a l b] (0, 0, 0) i hlt
        have el' : (tks (ts ++ [tk s a l b])).l i = (tks ts).l i := by show ((_ : Nat) : Int) = ((_ : Nat) : Int); rw [e]
        have ed' : (tks (ts ++ [tk s a l b])).d i = (tks ts).d i := by show ((_ : Nat) : Int) = ((_ : Nat) : Int); rw [e]
        have eb' : (tks (ts ++ [tk s a l b])).b i = (tks ts).b i := by show Prod.fst _ = Prod.fst _; rw [e]
        have := i3 i hlt
        unfold Tks.good Tks.shaped at this ⊢
        rw [el', ed', eb', tks_out _ _ _ (by omega)]
        exact this
      · obtain rfl : i = ts.length := by omega
        unfold Tks.good Tks.shaped
        rw [el, ed, eb, ho, List.length_take, hsz, Nat.min_eq_left (by omega)]
        have hy := byt_lt s a
        unfold tk
        rcases hl.good with ⟨q1, q2⟩ | ⟨q1, q2, q3, q4, q5, q6⟩
        · subst q1
          simp
          exact hy
        · have z1 : ¬ l = 0 := by omega
          have z2 : ¬ (l : Int) = 0 := by omega
          rw [if_neg z1, if_neg z2]
          refine ⟨⟨⟨rfl, ⟨?_, ?_⟩, ?_, ?_⟩, ?_⟩, ?_, ?_⟩
          · show (3 : Int) ≤ (l : Int); omega
          · show (l : Int) ≤ 258; omega
          · show (1 : Int) ≤ (b : Int); omega
          · show (b : Int) ≤ 32768; omega
          · show (b : Int) ≤ (a : Int); omega
          · show (b : Int) ≤ (win : Int); omega
          · show 0 < 256; omega
end Go.Proofs.YtfeljhikeddodaeGreatDoor
namespace Go.Proofs.YtfeljhikeddodaeGreatDoor
open Go.RowKit Mm

theorem tkVals_at (ts : List (Nat × Nat × Nat)) (i : Nat) (h : i < ts.length) : (tkVals ts)[i * 3]? = some (.int .u8 ((ts.getD i (0, 0, 0)).1 : Int)) ∧ (tkVals ts)[i * 3 + 1]? = some (.int .i64 ((ts.getD i (0, 0, 0)).2.1 : Int)) ∧ (tkVals ts)[i * 3 + 2]? = some (.int .i64 ((ts.getD i (0, 0, 0)).2.2 : Int)) := by
  induction ts generalizing i with
  | nil => exact absurd h (by simp)
  | cons t ts ih =>
    cases i with
    | zero => exact ⟨rfl, rfl, rfl⟩
    | succ i =>
      have := ih i (by rw [List.length_cons] at h; omega)
      rw [Nat.succ_mul]
      exact this
theorem row_tokens {w : World} {base n cL : Nat} {aL : Option Addr} {ts : List (Nat × Nat × Nat)} (h : w.ownsRow base 38 3 (.slice aL n cL) ts.length (tkVals ts)) (hl : ts.length ≤ 20000) (hb : ∀ i, i < ts.length → (tks ts).b i < 256 ∧ (tks ts).l i ≤ 32768 ∧ (tks ts).d i ≤ 32768) : IsTokens w aL ts.length (tks ts) := by
  by_cases h0 : ts.length = 0
  · exact .inl h0
  rcases h.2 with ⟨_, q⟩ | ⟨g, cap, cur, hv, hg, hh, r⟩
  · exact absurd q h0
  · injection hv with e1 e2 e3
    subst e1
    have hc := h.cells (g := g) rfl
    refine .inr ⟨g, 0, rfl, by unfold maxLen; omega, fun i hi => ?_⟩
    have hadd : ∀ j, (⟨g, 0, none⟩ : Addr).add j = ⟨g, 0 + j, none⟩ := fun j => by unfold Addr.add; split <;> simp_all
    obtain ⟨k0, k1, k2⟩ := tkVals_at ts i hi
    have c0 := hc _ _ k0
    have c1 := hc _ _ k1
    have c2 := hc _ _ k2
    rw [hadd] at c0 c1 c2
    obtain ⟨b0, b1, b2⟩ := hb i hi
    have n1 : (0 : Int) ≤ (tks ts).l i := Int.natCast_nonneg _
    have n2 : (0 : Int) ≤ (tks ts).d i := Int.natCast_nonneg _
    exact ⟨c0, c1, c2, b0, by omega, by omega⟩
end Go.Proofs.YtfeljhikeddodaeGreatDoor
namespace Go.Proofs.YtfeljhikeddodaeGreatDoor
open Go.RowKit Ps Nf Pm Cn

set_option maxHeartbeats 4000000 in
set_option maxRecDepth 100000 in
theorem deflate_any (s : ByteArray) (v1 v2 : Value) (w : World) (hs : s.size ≤ 20000) (hB : Bl w) (hn : 6 ≤ w.heap.size)
    (h1 : w.cell? ⟨0, 0, none⟩ = some v1) (h2 : w.cell? ⟨3, 0, none⟩ = some v2) :
    Calls Tryz.prog 20 #[.string s] w fun e w' => ∃ x, e = .returned (.tuple #[.string x, .nilIface]) ∧ Pk s.data.toList x ∧ x.size ≤ (textP (storP s.data.toList (fu s.size))).size ∧ Below w.heap.size w w' := by
  have HX := hide (tokens_in s 32768 w hs (by omega) (by omega))
  have l1 := World.block_lt_of_cell? _ _ h1
  have l2 := World.block_lt_of_cell? _ _ h2
  simp only at l1 l2
  have HB := hide hB
  have H1 := hide h1
  have H2 := hide h2
  clear hB h1 h2
  go_enter Tryz.func20, Tryz.ntmps20
  go_wp2_with fail
  refine (unhide HX).mono ?_
  rintro e w1 ⟨ts, aL, cL, rfl, hcov, ho1, hb1⟩
  obtain ⟨-, hout, hgood⟩ := Cov.means (by omega) hcov
  have hall : (tks ts).out ts.length = s.data.toList := by
    rw [hout, List.take_of_length_le]
    simp
  have hfew : ts.length ≤ 20000 := Nat.le_trans (Cov.few hcov) hs
  have hg : ∀ i, i < ts.length → (tks ts).good i := fun i hi => (hgood i hi).1
  have hb8 : ∀ i, i < ts.length → (tks ts).b i < 256 := fun i hi => (hgood i hi).2.2
  have hsh : ∀ i, i < ts.length → (tks ts).shaped i := fun i hi => (hg i hi).1
  have hIT : IsTokens w1 aL ts.length (tks ts) := row_tokens ho1 hfew (fun i hi => ⟨hb8 i hi, by
    have := hsh i hi
    unfold Tks.shaped at this
    split at this <;> omega, (hgood i hi).2.1⟩)
  obtain ⟨tx, htx⟩ : ∃ tx, tx = textP (storP s.data.toList (fu s.size)) := ⟨_, rfl⟩
  have hsl : s.data.toList.length = s.size := by simp
  have hfu := fu_ok s.size (by omega)
  have hP0 : Pk s.data.toList tx := by
    have := pk_sto s.data.toList (by omega)
    rwa [hsl, ← htx] at this
  have hs1 := hb1.size
  have ba := (Below.refl w1.heap.size w1).alloc (Nat.le_refl _) (.cells #[.func (.func 30) #[] #[], .func (.func 18) #[] #[], .func (.func 19) #[] #[]] 69)
  have hbw := hb1.trans (ba.mono hs1)
  have hz : (w1.alloc (.cells #[.func (.func 30) #[] #[], .func (.func 18) #[] #[], .func (.func 19) #[] #[]] 69)).heap.size = w1.heap.size + 1 := by simp
  have HX := hide (shortest_any w1.heap.size s aL ts.length cL (w1.alloc (.cells #[.func (.func 30) #[] #[], .func (.func 18) #[] #[], .func (.func 19) #[] #[]] 69)) (Pk s.data.toList) tx hP0 (by simp) (by simp) (by simp)
    (fun w' hb => by
      rw [htx]
      exact stored_any s aL ts.length cL (fu s.size) w' (by omega) hfu.1 hfu.2.1 hfu.2.2)
    (fun w' hb => by
      have hb' := hbw.trans (hb.mono (by omega))
      refine (fixed_any s aL ts.length cL (tks ts) v1 v2 w' ((hIT.below ba).below hb) ((unhide HB).below hb' hn) (Nat.le_trans hn hb'.size) ((hb'.cell (p := ⟨0, 0, none⟩) l1).trans (unhide H1)) ((hb'.cell (p := ⟨3, 0, none⟩) l2).trans (unhide H2)) hsh (by omega)).mono ?_
      rintro e w'' ⟨rfl, hbb⟩
      refine ⟨_, rfl, ?_, hbb⟩
      rw [← hall]
      exact pk_fix hg hb8 (by omega))
    (fun w' hb => by
      have hb' := hbw.trans (hb.mono (by omega))
      refine (dynamic_any s aL ts.length cL (tks ts) v1 v2 w' ((hIT.below ba).below hb) ((unhide HB).below hb' hn) (Nat.le_trans hn hb'.size) ((hb'.cell (p := ⟨0, 0, none⟩) l1).trans (unhide H1)) ((hb'.cell (p := ⟨3, 0, none⟩) l2).trans (unhide H2)) hsh (by omega)).mono ?_
      rintro e w'' ⟨ns, nd, nc, l0, l1, l2, ss, rfl, hdo, hbb⟩
      refine ⟨_, rfl, ?_, hbb⟩
      rw [← hall]
      exact pk_dyn hdo hg hb8 (by omega)))
  have HBW := hide hbw
  have HT := hide htx
  clear ho1 hcov hout hgood hall hg hb8 hsh hIT htx hP0 ba hbw hb1 hfu hsl
  go_wp2_with fail
  refine (unhide HX).mono ?_
  rintro e w2 ⟨x, rfl, hpk, hxs, hb2⟩
  have HR := hide (And.intro hpk hxs)
  have HB2 := hide ((unhide HBW).trans (hb2.mono (by omega)))
  clear HX hpk hxs hb2
  go_wp2
  go_ret2
  exact ⟨x, rfl, (unhide HR).1, by rw [← unhide HT]; exact (unhide HR).2, unhide HB2⟩
end Go.Proofs.YtfeljhikeddodaeGreatDoor
namespace Go.Proofs.YtfeljhikeddodaeGreatDoor
open Go.RowKit

theorem take_snoc (s : ByteArray) (k : Nat) (h : k < s.size) : s.data.toList.take (k + 1) = s.data.toList.take k ++ [s[k]] := by
  rw [List.take_succ_eq_append_getElem (by simpa using h)]; rfl
end Go.Proofs.YtfeljhikeddodaeGreatDoor
namespace Go.Proofs.YtfeljhikeddodaeGreatDoor.Ad

def one (p : Nat × Nat) (x : UInt8) : Nat × Nat := ((p.1 + x.toNat) % 65521, (p.2 + (p.1 + x.toNat) % 65521) % 65521)
def run (p : Nat × Nat) (l : List UInt8) : Nat × Nat := l.foldl one p
def join (p : Nat × Nat) : Nat := p.2 * 65536 + p.1
def part (n : Nat) : Nat × Nat := (n % 65536 % 65521, n / 65536 % 65521)
/-- ADLER of a text behind a number. -/
def more (n : Nat) (l : List UInt8) : Nat := join (run (part n) l)
theorem run_snoc (p : Nat × Nat) (l : List UInt8) (x : UInt8) : run p (l ++ [x]) = one (run p l) x := by simp [run]
theorem run_lt (p : Nat × Nat) (l : List UInt8) (h1 : p.1 < 65521) (h2 : p.2 < 65521) : (run p l).1 < 65521 ∧ (run p l).2 < 65521 := by
  induction l generalizing p with
  | nil => exact ⟨h1, h2⟩
  | cons x l ih => exact ih (one p x) (Nat.mod_lt _ (by omega)) (Nat.mod_lt _ (by omega))
theorem part_lt (n : Nat) : (part n).1 < 65521 ∧ (part n).2 < 65521 := ⟨Nat.mod_lt _ (by omega), Nat.mod_lt _ (by omega)⟩
theorem join_lt (p : Nat × Nat) (h1 : p.1 < 65521) (h2 : p.2 < 65521) : join p < 4294967296 := by
  unfold join; omega
theorem more_lt (n : Nat) (l : List UInt8) : more n l < 4294967296 := by
  have h := run_lt (part n) l (part_lt n).1 (part_lt n).2
  exact join_lt _ h.1 h.2
end Go.Proofs.YtfeljhikeddodaeGreatDoor.Ad
namespace Go.Proofs.YtfeljhikeddodaeGreatDoor
open Go.RowKit

theorem and_low16 (n : Nat) (h : n < 4294967296) : bits .and .u32 (n : Int) 65535 = ((n % 65536 : Nat) : Int) := by
  have := u32_and_nat n 65535 h (by omega)
  rw [show n &&& 65535 = n % 65536 from Nat.and_two_pow_sub_one_eq_mod n 16] at this
  exact this
theorem halves_any (n : Nat) (w : World) (h : n < 4294967296) :
    Calls Tryz.prog 72 #[.int .u32 (n : Int)] w fun e w' => e = .returned (.tuple #[.int .u64 ((Ad.part n).1 : Nat), .int .u64 ((Ad.part n).2 : Nat)]) ∧ w' = w := by
  have ha := and_low16 n h
  go_enter Tryz.func72, Tryz.ntmps72
  go_wp2
  go_ret2
  exact ⟨rfl, rfl⟩
theorem or_join (r : Nat × Nat) (h1 : r.1 < 65521) (h2 : r.2 < 65521) : bits .or .u64 ((r.2 : Int) * 65536) (r.1 : Int) % 4294967296 = (Ad.join r : Nat) := by
  have := u64_or_nat (r.2 * 65536) r.1 (by omega) (by omega)
  rw [nat_join 16 (r.2 * 65536) r.1 (by omega) (by omega)] at this
  rw [show ((r.2 : Int) * 65536) = ((r.2 * 65536 : Nat) : Int) from by omega, this]
  unfold Ad.join
  omega
set_option maxHeartbeats 400000 in
set_option maxRecDepth 100000 in
theorem moreAdler_any (n : Nat) (s : ByteArray) (w : World) (h : n < 4294967296) (hs : s.size ≤ maxLen) :
    Calls Tryz.prog 46 #[.int .u32 (n : Int), .string s] w fun e w' => e = .returned (.int .u32 (Ad.more n s.data.toList : Nat)) ∧ w' = w := by
  unfold maxLen at hs
  unfold Ad.more
  obtain ⟨hp1, hp2⟩ := Ad.part_lt n
  go_enter Tryz.func46, Tryz.ntmps46
  go_wp2_with (go_at_call 72; refine (halves_any n _ h).mono ?_; rintro e w' ⟨rfl, rfl⟩)
  go_loop [5, 6, 15] (fun a b i => ∃ k : Nat, k ≤ s.size ∧ i = .int .i64 k ∧ a = .int .u64 ((Ad.run (Ad.part n) (s.data.toList.take k)).1 : Nat) ∧ b = .int .u64 ((Ad.run (Ad.part n) (s.data.toList.take k)).2 : Nat)) (fun _ _ i => s.size - (intOf i).toNat)
  case atStart => exact ⟨0, by omega, rfl, rfl, rfl⟩
  case round =>
    obtain ⟨k, hk, rfl, rfl, rfl⟩ := hrel
    obtain ⟨hr1, hr2⟩ := Ad.run_lt (Ad.part n) (s.data.toList.take k) hp1 hp2
    by_cases hlt : k < s.size
    · have hsn := hide (Ad.run_snoc (Ad.part n) (s.data.toList.take k) s[k])
      have hts := hide (take_snoc s k hlt)
      have hb := s[k].toNat_lt
      have hd : decide ((k : Int) < (s.size : Int)) = true := by simp; omega
      generalize Ad.run (Ad.part n) (s.data.toList.take k) = r at *
      go_wp2
      go_round
      case rel => exact ⟨k + 1, by omega, by go_num, by rw [unhide hts, unhide hsn]; simp only [Ad.one]; go_num, by rw [unhide hts, unhide hsn]; simp only [Ad.one]; go_num⟩
      case measure => simp [intOf]; omega
    · have : k = s.size := by omega
      subst this
      have hd : decide ((s.size : Int) < (s.size : Int)) = false := by simp
      have he := hide (show s.data.toList.take s.size = s.data.toList from List.take_of_length_le (by simp))
      go_wp2
      go_ret
      exact ⟨ret_int (by rw [or_join _ hr1 hr2, unhide he]), rfl⟩
theorem adler_any (s : ByteArray) (w : World) (hs : s.size ≤ maxLen) :
    Calls Tryz.prog 22 #[.string s] w fun e w' => e = .returned (.int .u32 (Ad.more 1 s.data.toList : Nat)) ∧ w' = w := by
  go_enter Tryz.func22, Tryz.ntmps22
  go_wp2_with (go_at_call 46; refine (moreAdler_any 1 s _ (by omega) hs).mono ?_; rintro e w' ⟨rfl, rfl⟩)
  go_ret
  exact ⟨rfl, rfl⟩
end Go.Proofs.YtfeljhikeddodaeGreatDoor
namespace Go.Proofs.YtfeljhikeddodaeGreatDoor
open Go.RowKit Ps Nf Pm Cn

/-- Four bytes of a number, the highest first. -/
def dh4 (n : Nat) : List UInt8 := [UInt8.ofNat (n / 16777216), UInt8.ofNat (n / 65536), UInt8.ofNat (n / 256), UInt8.ofNat n]
set_option maxHeartbeats 1000000 in
theorem dhigh_any (n : Nat) (w : World) (hn : n < 4294967296) :
    Calls Tryz.prog 21 #[.int .u32 (n : Int)] w fun e w' => e = .returned (.string ⟨(dh4 n).toArray⟩) ∧ Below w.heap.size w w' := by
  obtain ⟨a, ha⟩ : ∃ a, a = n / 16777216 := ⟨_, rfl⟩
  obtain ⟨qb, hqb⟩ : ∃ b, b = n / 65536 := ⟨_, rfl⟩
  obtain ⟨qc, hqc⟩ : ∃ c, c = n / 256 := ⟨_, rfl⟩
  obtain ⟨b, hb⟩ : ∃ b, b = qb % 256 := ⟨_, rfl⟩
  obtain ⟨c, hc⟩ : ∃ c, c = qc % 256 := ⟨_, rfl⟩
  obtain ⟨d, hd⟩ : ∃ d, d = n % 256 := ⟨_, rfl⟩
  have e1 : (n : Int) / 16777216 = (a : Int) := by omega
  have e2 : (n : Int) / 65536 = (qb : Int) := by omega
  have e3 : (n : Int) / 256 = (qc : Int) := by omega
  have e0 : (a : Int) % 256 = (a : Int) := by omega
  have e4 : (qb : Int) % 256 = (b : Int) := by omega
  have e5 : (qc : Int) % 256 = (c : Int) := by omega
  have e6 : (n : Int) % 256 = (d : Int) := by omega
  have l1 : a < 256 := by omega
  have l2 : b < 256 := by omega
  have l3 : c < 256 := by omega
  have l4 : d < 256 := by omega
  have hbe : dh4 n = [UInt8.ofNat a, UInt8.ofNat b, UInt8.ofNat c, UInt8.ofNat d] := by
    have key : ∀ m : Nat, UInt8.ofNat m = UInt8.ofNat (m % 256) := fun m => by
      apply UInt8.toNat_inj.1
      rw [UInt8.toNat_ofNat', UInt8.toNat_ofNat']
      omega
    unfold dh4
    rw [hb, hc, hd, hqb, hqc, ha, ← key, ← key, ← key]
  have hcv := own_text (w.alloc (.cells #[.int .u8 (a : Int), .int .u8 (b : Int), .int .u8 (c : Int), .int .u8 (d : Int)] 5)) w.heap.size (.slice (some ⟨w.heap.size, 0, none⟩) 4 4) 4 (dh4 n) (by
    have := World.ownsRow_lit (base := w.heap.size) (e := 5) (size := 1) w #[.int .u8 (a : Int), .int .u8 (b : Int), .int .u8 (c : Int), .int .u8 (d : Int)] 4 (Nat.le_refl _) (by decide) rfl
    have k : ∀ m : Nat, m < 256 → (UInt8.ofNat m).toNat = m := fun m hm => by rw [UInt8.toNat_ofNat']; omega
    rw [hbe]
    simpa [byteVals, k a l1, k b l2, k c l3, k d l4] using this)
  have HBE := hide hbe
  clear ha hb hc hd hqb hqc hbe
  generalize dh4 n = dd at *
  go_enter Tryz.func21, Tryz.ntmps21
  go_wp2
  go_ret
  exact ⟨rfl, (Below.refl _ _).alloc (Nat.le_refl _) _⟩
/-- What a text is, zipped. -/
def zipT (s x : ByteArray) : ByteArray := (⟨#[120, 156]⟩ ++ x) ++ ⟨(dh4 (Ad.more 1 s.data.toList)).toArray⟩
set_option maxHeartbeats 4000000 in
theorem zip_any (s : ByteArray) (v1 v2 : Value) (w : World) (hs : s.size ≤ 20000) (hB : Bl w) (hn : 6 ≤ w.heap.size)
    (h1 : w.cell? ⟨0, 0, none⟩ = some v1) (h2 : w.cell? ⟨3, 0, none⟩ = some v2) :
    Calls Tryz.prog 8 #[.string s] w fun e w' => ∃ x, e = .returned (.tuple #[.string (zipT s x), .nilIface]) ∧ Pk s.data.toList x ∧ x.size ≤ s.size + 30 ∧ Below w.heap.size w w' := by
  have HX := hide (deflate_any s v1 v2 w hs hB hn h1 h2)
  have HA := hide (fun w' => adler_any s w' (by unfold maxLen; omega))
  have hlt : Ad.more 1 s.data.toList < 4294967296 := Ad.more_lt _ _
  unfold zipT
  generalize Ad.more 1 s.data.toList = ad at *
  have HH := hide (fun w' => dhigh_any ad w' hlt)
  obtain ⟨dd, hdd⟩ : ∃ q, q = (⟨(dh4 ad).toArray⟩ : ByteArray) := ⟨_, rfl⟩
  have hd4 : dd.size = 4 := by rw [hdd]; rfl
  rw [← hdd] at HH ⊢
  clear hdd
  clear hB h1 h2
  go_enter Tryz.func8, Tryz.ntmps8
  go_wp2_with fail
  refine (unhide HX).mono ?_
  rintro e w1 ⟨x, rfl, hpk, hxl, hb1⟩
  have hx30 : x.size ≤ s.size + 30 := by
    have h1 := storP_len (fu s.size) s.data.toList
    have h2 : s.data.toList.length = s.size := by simp
    have h3 := fu_ok s.size (by omega)
    rw [textP_size] at hxl
    omega
  have hxz : x.size ≤ 2000000 := by
    obtain ⟨ps, hx, _, hl, _⟩ := hpk
    rw [hx, textP_size]
    omega
  have hxa : (⟨#[120, 156]⟩ ++ x : ByteArray).size ≤ 2000002 := by
    rw [ByteArray.size_append]
    show 2 + _ ≤ _
    omega
  have HP := hide (And.intro hpk hx30)
  clear hpk HX hxl hx30
  go_wp2_with fail
  refine (unhide HA w1).mono ?_
  rintro e w2 ⟨rfl, hw2⟩
  obtain rfl : w1 = w2 := hw2.symm
  go_wp2_with fail
  refine (unhide HH w1).mono ?_
  rintro e w3 ⟨rfl, hb3⟩
  have HB := hide (hb1.trans (hb3.mono hb1.size))
  clear HA HH hb1 hb3
  go_wp2
  go_ret2
  exact ⟨x, rfl, (unhide HP).1, (unhide HP).2, unhide HB⟩
end Go.Proofs.YtfeljhikeddodaeGreatDoor
