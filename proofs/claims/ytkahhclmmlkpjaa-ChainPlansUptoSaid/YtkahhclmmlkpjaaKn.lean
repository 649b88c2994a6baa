/- The plain mathematics of layer 2 (chain), second part: chains, gauges, what they ask of the ends. Nothing here speaks of the program. -/
import Derived.Test.YtkahhclmmlkpjaaKm
namespace Go.Proofs.Ytkahhclmmlkpjaa

structure Chn where
  n : Int
  pi : Int
  li : Int

structure Gau where
  a : Int
  b : Int
  lo : Int
  hi : Int

def chainBad (c : Chn) : Bool := !decide (1 ≤ c.n ∧ c.n ≤ 24) || !decide (1 ≤ c.li ∧ c.li ≤ 100000) || !decide (1 ≤ c.pi ∧ c.pi ≤ c.li)
def spanBad (m lo hi : Int) : Bool := !decide (0 ≤ hi ∧ hi ≤ m) || !decide (0 ≤ lo ∧ lo ≤ hi)
def gauBad (N : Int) (g : Gau) : Bool := !decide (1 ≤ g.b ∧ g.b ≤ N) || !decide (0 ≤ g.a ∧ g.a ≤ g.b - 1) || spanBad 10000000 g.lo g.hi
def chkM (c : Chn) (l : List Gau) : Int := if chainBad c = true then 20 else if 40 < l.length then 2 else if l.any (gauBad c.n) = true then 21 else 0

/-- A chain that is as it should be. -/
structure COk (c : Chn) : Prop where
  n1 : 1 ≤ c.n
  n2 : c.n ≤ 24
  l1 : 1 ≤ c.li
  l2 : c.li ≤ 100000
  p1 : 1 ≤ c.pi
  p2 : c.pi ≤ c.li

/-- A gauge of a chain with N links; it may be over no link, if it says so. -/
structure GOk (N : Int) (g : Gau) : Prop where
  a0 : 0 ≤ g.a
  ab : g.a ≤ g.b
  bn : g.b ≤ N
  lo0 : 0 ≤ g.lo
  lh : g.lo ≤ g.hi
  h0 : g.hi ≤ 10000000
  none : g.a = g.b → g.lo = 0

theorem cok_of {c : Chn} (h : chainBad c = false) : COk c := by
  simp [chainBad] at h
  exact ⟨by omega, by omega, by omega, by omega, by omega, by omega⟩

theorem gok_of {N : Int} {g : Gau} (h : gauBad N g = false) : GOk N g ∧ g.a < g.b := by
  simp [gauBad, spanBad] at h
  exact ⟨⟨by omega, by omega, by omega, by omega, by omega, by omega, by omega⟩, by omega⟩

theorem chk_ok {c : Chn} {l : List Gau} (h : chkM c l = 0) : COk c ∧ l.length ≤ 40 ∧ (∀ g ∈ l, GOk c.n g ∧ g.a < g.b) := by
  unfold chkM at h
  split at h
  · omega
  · rename_i h1
    split at h
    · omega
    · rename_i h2
      split at h
      · omega
      · rename_i h3
        refine ⟨cok_of (by simpa using h1), by omega, fun g hg => gok_of ?_⟩
        cases hq : gauBad c.n g
        · rfl
        · exact absurd (List.any_eq_true.2 ⟨g, hg, hq⟩) (by simpa using h3)

/-! ### The nets -/
def prog0 (c : Chn) : Net := fun i k => if i < k then ((k : Int) - i) * c.li else ((k : Int) - i) * c.pi
def spec0 (c : Chn) : Net := fun i k => if i = k then 0 else if k = i + 1 then c.li else if i = k + 1 then -c.pi else 1099511627776
def up (M : Net) (i k : Nat) (v : Int) : Net := fun i' k' => if i' = i ∧ k' = k then min (M i k) v else M i' k'
def addG (M : Net) (g : Gau) : Net := up (up M g.a.toNat g.b.toNat g.hi) g.b.toNat g.a.toNat (-g.lo)
def addGs (M : Net) (l : List Gau) : Net := l.foldl addG M

/-- The places x of the ends are possible. -/
def Ends (c : Chn) (l : List Gau) (x : Nat → Int) : Prop :=
  (∀ i, i < c.n.toNat → c.pi ≤ x (i + 1) - x i ∧ x (i + 1) - x i ≤ c.li) ∧ ∀ g ∈ l, g.lo ≤ x g.b.toNat - x g.a.toNat ∧ x g.b.toNat - x g.a.toNat ≤ g.hi

theorem sat_up {n : Nat} {M : Net} {i k : Nat} {v : Int} {x : Nat → Int} (hi : i ≤ n) (hk : k ≤ n) : Sat n (up M i k v) x ↔ Sat n M x ∧ x k - x i ≤ v := by
  constructor
  · intro h
    constructor
    · intro a b ha hb
      have h1 := h a b ha hb
      unfold up at h1
      split at h1
      · rename_i he; obtain ⟨rfl, rfl⟩ := he; omega
      · exact h1
    · have h1 := h i k hi hk
      unfold up at h1
      rw [if_pos ⟨rfl, rfl⟩] at h1
      omega
  · rintro ⟨h, hv⟩ a b ha hb
    have h1 := h a b ha hb
    unfold up
    split
    · rename_i he; obtain ⟨rfl, rfl⟩ := he; omega
    · exact h1

theorem sat_addGs {N : Int} {x : Nat → Int} : ∀ (l : List Gau) (M : Net), (∀ g ∈ l, GOk N g) →
    (Sat N.toNat (addGs M l) x ↔ Sat N.toNat M x ∧ ∀ g ∈ l, g.lo ≤ x g.b.toNat - x g.a.toNat ∧ x g.b.toNat - x g.a.toNat ≤ g.hi)
  | [], M, _ => by simp [addGs]
  | g :: l, M, h => by
    have hg := h g (List.mem_cons_self ..)
    have a0 := hg.a0
    have ab := hg.ab
    have bn := hg.bn
    have e : addGs M (g :: l) = addGs (addG M g) l := rfl
    rw [e, sat_addGs l (addG M g) (fun g hg => h g (List.mem_cons_of_mem _ hg))]
    unfold addG
    rw [sat_up (by omega) (by omega), sat_up (by omega) (by omega)]
    simp only [List.forall_mem_cons]
    constructor
    · rintro ⟨⟨⟨h1, h2⟩, h3⟩, h4⟩
      exact ⟨h1, ⟨by omega, h2⟩, h4⟩
    · rintro ⟨h1, ⟨h3, h2⟩, h4⟩
      exact ⟨⟨⟨h1, h2⟩, by omega⟩, h4⟩

/-- A run of links that are each within their bounds. -/
theorem runs {c : Chn} {x : Nat → Int} {n : Nat} (h : ∀ i, i < n → c.pi ≤ x (i + 1) - x i ∧ x (i + 1) - x i ≤ c.li) (i : Nat) : ∀ d, i + d ≤ n → (d : Int) * c.pi ≤ x (i + d) - x i ∧ x (i + d) - x i ≤ (d : Int) * c.li
  | 0, _ => by simp
  | d + 1, hd => by
    have h1 := runs h i d (by omega)
    have h2 := h (i + d) (by omega)
    have e1 : ((d + 1 : Nat) : Int) * c.pi = d * c.pi + c.pi := by rw [Int.natCast_succ, Int.add_mul, Int.one_mul]
    have e2 : ((d + 1 : Nat) : Int) * c.li = d * c.li + c.li := by rw [Int.natCast_succ, Int.add_mul, Int.one_mul]
    rw [e1, e2, show i + (d + 1) = i + d + 1 by omega]
    omega

theorem sat_prog0 {c : Chn} {x : Nat → Int} {n : Nat} : Sat n (prog0 c) x ↔ ∀ i, i < n → c.pi ≤ x (i + 1) - x i ∧ x (i + 1) - x i ≤ c.li := by
  constructor
  · intro h i hi
    have h1 := h i (i + 1) (by omega) (by omega)
    have h2 := h (i + 1) i (by omega) (by omega)
    unfold prog0 at h1 h2
    rw [if_pos (by omega)] at h1
    rw [if_neg (by omega)] at h2
    have e1 : ((i + 1 : Nat) : Int) - i = 1 := by omega
    have e2 : (i : Int) - (i + 1 : Nat) = -1 := by omega
    rw [e1] at h1
    rw [e2] at h2
    omega
  · intro h i k hi hk
    unfold prog0
    split
    · rename_i hlt
      have h1 := (runs h i (k - i) (by omega)).2
      rw [show i + (k - i) = k by omega, Int.natCast_sub (by omega)] at h1
      exact h1
    · rename_i hle
      have h1 := (runs h k (i - k) (by omega)).1
      rw [show k + (i - k) = i by omega, Int.natCast_sub (by omega)] at h1
      have e : ((k : Int) - i) * c.pi = -(((i : Int) - k) * c.pi) := by rw [← Int.neg_mul]; congr 1; omega
      rw [e]
      omega

theorem sat_spec0 {c : Chn} (hc : COk c) {x : Nat → Int} {n : Nat} (hn : n ≤ 24) : Sat n (spec0 c) x ↔ ∀ i, i < n → c.pi ≤ x (i + 1) - x i ∧ x (i + 1) - x i ≤ c.li := by
  constructor
  · intro h i hi
    have h1 := h i (i + 1) (by omega) (by omega)
    have h2 := h (i + 1) i (by omega) (by omega)
    unfold spec0 at h1 h2
    rw [if_neg (by omega), if_pos rfl] at h1
    rw [if_neg (by omega), if_neg (by omega), if_pos rfl] at h2
    omega
  · intro h i k hi hk
    have hs := (sat_prog0 (n := n)).2 h i k hi hk
    have l1 := hc.l1
    have l2 := hc.l2
    have p1 := hc.p1
    unfold spec0
    split
    · rename_i e; subst e; omega
    · split
      · rename_i e; subst e; exact (h i (by omega)).2
      · split
        · rename_i e; subst e; have := (h k (by omega)).1; omega
        · unfold prog0 at hs
          split at hs
          · rename_i hlt
            have h1 : ((k : Int) - i) * c.li ≤ ((k : Int) - i) * 100000 := Int.mul_le_mul_of_nonneg_left l2 (by omega)
            omega
          · rename_i hle
            have h1 : ((k : Int) - i) * c.pi ≤ 0 := Int.mul_nonpos_of_nonpos_of_nonneg (by omega) (by omega)
            omega

/-! ### All numbers are small; each end lies at itself -/
structure NetOk (n : Nat) (M : Net) : Prop where
  self : ∀ i, i ≤ n → M i i = 0
  small : ∀ i k, i ≤ n → k ≤ n → -10000000 ≤ M i k ∧ M i k ≤ 1099511627776

theorem prog0_ok {c : Chn} (hc : COk c) {n : Nat} (hn : n ≤ 24) : NetOk n (prog0 c) := by
  have l1 := hc.l1
  have l2 := hc.l2
  have p1 := hc.p1
  have p2 := hc.p2
  refine ⟨fun i _ => by unfold prog0; simp, fun i k hi hk => ?_⟩
  unfold prog0
  split
  · rename_i h
    have h1 : ((k : Int) - i) * c.li ≤ ((k : Int) - i) * 100000 := Int.mul_le_mul_of_nonneg_left l2 (by omega)
    have h2 : 0 ≤ ((k : Int) - i) * c.li := Int.mul_nonneg (by omega) (by omega)
    omega
  · rename_i h
    have h1 : ((i : Int) - k) * c.pi ≤ ((i : Int) - k) * 100000 := Int.mul_le_mul_of_nonneg_left (by omega) (by omega)
    have h2 : 0 ≤ ((i : Int) - k) * c.pi := Int.mul_nonneg (by omega) (by omega)
    have e : ((k : Int) - i) * c.pi = -(((i : Int) - k) * c.pi) := by rw [← Int.neg_mul]; congr 1; omega
    rw [e]
    omega

theorem spec0_ok {c : Chn} (hc : COk c) {n : Nat} : NetOk n (spec0 c) := by
  have l1 := hc.l1
  have l2 := hc.l2
  have p1 := hc.p1
  have p2 := hc.p2
  refine ⟨fun i _ => by unfold spec0; simp, fun i k hi hk => ?_⟩
  unfold spec0
  split
  · omega
  · split
    · omega
    · split <;> omega

theorem up_ok {n : Nat} {M : Net} (h : NetOk n M) {i k : Nat} {v : Int} (hi : i ≤ n) (hk : k ≤ n) (h1 : -10000000 ≤ v) (h2 : v ≤ 1099511627776) (h3 : i = k → 0 ≤ v) : NetOk n (up M i k v) := by
  have hs := h.small i k hi hk
  refine ⟨fun j hj => ?_, fun a b ha hb => ?_⟩
  · unfold up
    split
    · rename_i he
      obtain ⟨rfl, rfl⟩ := he
      have := h.self j hj
      have := h3 rfl
      omega
    · exact h.self j hj
  · unfold up
    split
    · omega
    · exact h.small a b ha hb

theorem addG_ok {N : Int} {M : Net} (h : NetOk N.toNat M) {g : Gau} (hg : GOk N g) : NetOk N.toNat (addG M g) := by
  have a0 := hg.a0
  have ab := hg.ab
  have bn := hg.bn
  have lo0 := hg.lo0
  have lh := hg.lh
  have h0 := hg.h0
  have hn := hg.none
  unfold addG
  exact up_ok (up_ok h (by omega) (by omega) (by omega) (by omega) (by omega)) (by omega) (by omega) (by omega) (by omega) (fun he => by have := hn (by omega); omega)

theorem addGs_ok {N : Int} : ∀ (l : List Gau) {M : Net}, NetOk N.toNat M → (∀ g ∈ l, GOk N g) → NetOk N.toNat (addGs M l)
  | [], _, h, _ => h
  | g :: l, _, h, hl => addGs_ok l (addG_ok h (hl g (List.mem_cons_self ..))) (fun g hg => hl g (List.mem_cons_of_mem _ hg))

/-! ### What chain and gauges say -/
def netP (c : Chn) (l : List Gau) : Net := addGs (prog0 c) l
def netS (c : Chn) (l : List Gau) : Net := addGs (spec0 c) l
/-- Some lengths are possible. -/
def Agree (c : Chn) (l : List Gau) : Prop := ∃ x, Ends c l x
/-- How far end k may lie behind end i. -/
def RM (c : Chn) (l : List Gau) : Net := fw (netP c l) (c.n.toNat + 1)

theorem sat_netP {c : Chn} {l : List Gau} (hl : ∀ g ∈ l, GOk c.n g) (x : Nat → Int) : Sat c.n.toNat (netP c l) x ↔ Ends c l x := by
  unfold netP Ends
  rw [sat_addGs l _ hl, sat_prog0]

theorem sat_netS {c : Chn} {l : List Gau} (hc : COk c) (hl : ∀ g ∈ l, GOk c.n g) (x : Nat → Int) : Sat c.n.toNat (netS c l) x ↔ Ends c l x := by
  unfold netS Ends
  rw [sat_addGs l _ hl, sat_spec0 hc (by have := hc.n2; omega)]

theorem netP_ok {c : Chn} {l : List Gau} (hc : COk c) (hl : ∀ g ∈ l, GOk c.n g) : NetOk c.n.toNat (netP c l) := addGs_ok l (prog0_ok hc (by have := hc.n2; omega)) hl
theorem netS_ok {c : Chn} {l : List Gau} (hc : COk c) (hl : ∀ g ∈ l, GOk c.n g) : NetOk c.n.toNat (netS c l) := addGs_ok l (spec0_ok hc) hl

theorem goodP {c : Chn} {l : List Gau} (hc : COk c) (hl : ∀ g ∈ l, GOk c.n g) : Good c.n.toNat (netP c l) (c.n.toNat + 1) ↔ Agree c l := by
  rw [good_iff (netP_ok hc hl).self]
  exact ⟨fun ⟨x, hx⟩ => ⟨x, (sat_netP hl x).1 hx⟩, fun ⟨x, hx⟩ => ⟨x, (sat_netP hl x).2 hx⟩⟩

theorem goodS {c : Chn} {l : List Gau} (hc : COk c) (hl : ∀ g ∈ l, GOk c.n g) : Good c.n.toNat (netS c l) (c.n.toNat + 1) ↔ Agree c l := by
  rw [good_iff (netS_ok hc hl).self]
  exact ⟨fun ⟨x, hx⟩ => ⟨x, (sat_netS hc hl x).1 hx⟩, fun ⟨x, hx⟩ => ⟨x, (sat_netS hc hl x).2 hx⟩⟩

theorem fwS {c : Chn} {l : List Gau} (hc : COk c) (hl : ∀ g ∈ l, GOk c.n g) (h : Agree c l) {i k : Nat} (hi : i ≤ c.n.toNat) (hk : k ≤ c.n.toNat) : fw (netS c l) (c.n.toNat + 1) i k = RM c l i k :=
  ((fw_eq (netP_ok hc hl).self (netS_ok hc hl).self (fun x => (sat_netP hl x).trans (sat_netS hc hl x).symm)).2 ((goodP hc hl).2 h) i k hi hk).symm

theorem closedR {c : Chn} {l : List Gau} (hc : COk c) (hl : ∀ g ∈ l, GOk c.n g) (h : Agree c l) : Closed c.n.toNat (RM c l) := closed_fw (netP_ok hc hl).self ((goodP hc hl).2 h)

theorem sat_RM {c : Chn} {l : List Gau} (hl : ∀ g ∈ l, GOk c.n g) (x : Nat → Int) : Sat c.n.toNat (RM c l) x ↔ Ends c l x := (sat_fw _ (Nat.le_refl _)).trans (sat_netP hl x)

theorem RM_small {c : Chn} {l : List Gau} (hc : COk c) (hl : ∀ g ∈ l, GOk c.n g) {i k : Nat} (hi : i ≤ c.n.toNat) (hk : k ≤ c.n.toNat) : -335544320000000 ≤ RM c l i k ∧ RM c l i k ≤ 1099511627776 :=
  fw_small (by have := hc.n2; omega) (netP_ok hc hl).small _ (Nat.le_refl _) i k hi hk

end Go.Proofs.Ytkahhclmmlkpjaa
