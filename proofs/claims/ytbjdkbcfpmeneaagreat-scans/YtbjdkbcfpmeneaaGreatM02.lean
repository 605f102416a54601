/- What is proved here: where a reading of a pattern ends; no program is walked. -/
import Derived.Test.YtbjdkbcfpmeneaaGreatM01
import Derived.Deep.Cut
open Bool renaming false_eq_true->acV,or_eq_true->pJ,or_true->Gk
open Go renaming Calls->aI,Value->aq,World->ay,bodyPost_ret->cF,wp_region_lit->fD
open Go.Proofs.Tryz renaming prog->aB,results101->aaG,results114->G5,results115->adv
open Go.RowKit.Below renaming alloc->uo,drew->uq,refl->kQ,trans->Jt
open Go.Value renaming oneCell'->dS
open Go.World renaming setCells->G8
open List renaming cons_append->aaj,eq_nil_of_length_eq_zero->Et,getD_eq_getElem?_getD->aO,getElem?_eq_getElem->bD,getElem?_eq_none->iY,getElem?_take->Eu,length->ae,length_set->mq,set_cons_succ->eU
open Nat renaming le_refl->aH,lt_or_ge->eK,ne_of_lt->bY,one_shiftLeft->qM,testBit_or->jD,testBit_two_pow->ux
namespace Go.Proofs.YtbjdkbcfpmeneaaGreat
set_option linter.unusedVariables false
set_option linter.unusedSimpArgs false
set_option maxRecDepth 100000
set_option maxHeartbeats 16000000
open Go.RowKit
section
variable{lo hi l f s mid f1 l1 f2 l2 q:Nat}{B F:Nat->Nat}{e e1 e2:Bool}
abbrev cC:=List Nat->Prop
def Oy:cC:=fun x=>x=[]
def Lw(s:Nat):cC:=fun x=>∃c,x=[c]/\s.testBit c=true
def FE(a b:cC):cC:=fun x=>∃y z,x=y++z/\a y/\b z
def Lu(a b:cC):cC:=fun x=>a x\/b x
def IB(a:cC):Nat->cC
 |0=>Oy
 |n+1=>FE a (IB a n)
def TO(a:cC):cC:=fun x=>∃n,IB a n x
def Lv(a:cC):cC:=fun x=>∃n,IB a (n+1) x
def Oz(a:cC):cC:=fun x=>x=[]\/a x
def rd(B F:Nat->Nat)(last:Nat):Nat->List Nat->Prop
 |_,[]=>False
 |q,c::cs=>(B q).testBit c=true/\((cs=[]/\last.testBit q=true)\/∃r,(F q).testBit r=true/\rd B F last r cs)
def fV(B F:Nat->Nat)(e:Bool)(first last:Nat):cC:=fun x=>(x=[]/\e=true)\/∃q,first.testBit q=true/\rd B F last q x
def In(lo hi s:Nat):Prop:=∀q,s.testBit q=true->lo<=q/\q<hi
structure jE(B F:Nat->Nat)(lo hi:Nat)(e:Bool)(first last:Nat)(L:cC):Prop where
 fi:In lo hi first
 la:In lo hi last
 fo:∀q,lo<=q->q<hi->In lo hi (F q)
 eq:∀x,fV B F e first last x↔L x
theorem jE.congr{B' F':Nat->Nat}{first last:Nat}{L:cC}(h:jE B F lo hi e first last L)(hb:∀q,q<hi->B' q=B q)(hf:∀q,lo<=q->q<hi->F' q=F q):jE B' F' lo hi e first last L:=by
 have key:∀(x:List Nat) (q:Nat),lo<=q->q<hi->(rd B' F' last q x↔rd B F last q x):=by
  intro x;induction x with
  |nil=>intro q _ _;exact Iff.rfl
  |cons c cs ih =>
   intro q h1 h2;simp only[rd,hf q h1 h2,hb q h2];constructor
   .rintro⟨a,b|⟨r,b,d⟩⟩
    .exact⟨a,.inl b⟩
    .have:=h.fo q h1 h2 r b;exact⟨a,.inr ⟨r,b,(ih r this.1 this.2).1 d⟩⟩
   .rintro⟨a,b|⟨r,b,d⟩⟩
    .exact⟨a,.inl b⟩
    .have:=h.fo q h1 h2 r b;exact⟨a,.inr ⟨r,b,(ih r this.1 this.2).2 d⟩⟩
 refine⟨h.fi,h.la,fun q h1 h2=>by rw[hf q h1 h2];exact h.fo q h1 h2,fun x=>?_⟩;rw[<-h.eq x];constructor
 .rintro(a|⟨q,a,b⟩)
  .exact .inl a
  .exact .inr ⟨q,a,(key x q (h.fi q a).1 (h.fi q a).2).1 b⟩
 .rintro(a|⟨q,a,b⟩)
  .exact .inl a
  .exact .inr ⟨q,a,(key x q (h.fi q a).1 (h.fi q a).2).2 b⟩
theorem In.mono{lo' hi':Nat}(h:In lo hi s)(h1:lo'<=lo)(h2:hi<=hi'):In lo' hi' s:=fun q hq=>by have:=h q hq;omega
theorem In.or{t:Nat}(h:In lo hi s)(k:In lo hi t):In lo hi (s ||| t):=fun q hq=>by
 rw[jD,pJ]at hq
 rcases hq with hq|hq
 .exact h q hq
 .exact k q hq
theorem In.zero(lo hi:Nat):In lo hi 0:=fun q hq=>by simp at hq
theorem In.one{n:Nat}(h1:lo<=n)(h2:n<hi):In lo hi (1 <<< n):=fun q hq=>by
 rw[qM,ux,decide_eq_true_eq]at hq
 omega
theorem jE.aX(B F:Nat->Nat)(n:Nat):jE B F n n true 0 0 Oy :=
 ⟨In.zero _ _,In.zero _ _,fun q h1 h2=>by omega,fun x=>by
  unfold fV Oy
  constructor
  .rintro(⟨a,_⟩|⟨q,a,_⟩)
   .exact a
   .simp at a
  .intro a;exact .inl ⟨a,rfl⟩⟩
theorem jE.single(B F:Nat->Nat)(n:Nat)(hF:F n=0):jE B F n (n+1) false (1 <<< n) (1 <<< n) (Lw (B n)):=by
 refine⟨In.one (aH _) (by omega),In.one (aH _) (by omega),fun q h1 h2=>?_,fun x=>?_⟩
 .have:q=n:=(by omega);rw[this,hF];exact In.zero _ _
 .unfold fV Lw;have hb:∀q,(1 <<< n).testBit q=true↔q=n:=fun q=>by rw[qM,ux,decide_eq_true_eq];exact eq_comm
  constructor
  .rintro(⟨_,a⟩|⟨q,a,b⟩)
   .cases a
   .rw[hb]at a;subst a;cases x with
    |nil=>exact b.elim
    |cons c cs =>
     obtain⟨b1,⟨b2,_⟩|⟨r,b2,_⟩⟩:=b
     .subst b2;exact⟨c,rfl,b1⟩
     .rw[hF]at b2;simp at b2
  .rintro⟨c,rfl,a⟩;exact .inr ⟨n,(hb n).2 rfl,a,.inl ⟨rfl,(hb n).2 rfl⟩⟩
theorem jE.either{L M:cC}(h:jE B F lo mid e1 f1 l1 L)(k:jE B F mid hi e2 f2 l2 M)(h1:lo<=mid)(h2:mid<=hi):jE B F lo hi (e1 || e2) (f1 ||| f2) (l1 ||| l2) (Lu L M):=by
 have left:∀(x:List Nat) (q:Nat),lo<=q->q<mid->(rd B F (l1 ||| l2) q x↔rd B F l1 q x):=by
  intro x;induction x with
  |nil=>intro q _ _;exact Iff.rfl
  |cons c cs ih =>
   intro q a b;simp only[rd];have e:(l1 ||| l2).testBit q=l1.testBit q:=by
    rw[jD];cases e2:l2.testBit q with
    |false=>simp
    |true=>have:=k.la q e2;omega
   rw[e];constructor
   .rintro⟨x,y|⟨r,y,z⟩⟩
    .exact⟨x,.inl y⟩
    .have:=h.fo q a b r y;exact⟨x,.inr ⟨r,y,(ih r this.1 this.2).1 z⟩⟩
   .rintro⟨x,y|⟨r,y,z⟩⟩
    .exact⟨x,.inl y⟩
    .have:=h.fo q a b r y;exact⟨x,.inr ⟨r,y,(ih r this.1 this.2).2 z⟩⟩
 have right:∀(x:List Nat) (q:Nat),mid<=q->q<hi->(rd B F (l1 ||| l2) q x↔rd B F l2 q x):=by
  intro x;induction x with
  |nil=>intro q _ _;exact Iff.rfl
  |cons c cs ih =>
   intro q a b;simp only[rd];have e:(l1 ||| l2).testBit q=l2.testBit q:=by
    rw[jD];cases e1:l1.testBit q with
    |false=>simp
    |true=>have:=h.la q e1;omega
   rw[e];constructor
   .rintro⟨x,y|⟨r,y,z⟩⟩
    .exact⟨x,.inl y⟩
    .have:=k.fo q a b r y;exact⟨x,.inr ⟨r,y,(ih r this.1 this.2).1 z⟩⟩
   .rintro⟨x,y|⟨r,y,z⟩⟩
    .exact⟨x,.inl y⟩
    .have:=k.fo q a b r y;exact⟨x,.inr ⟨r,y,(ih r this.1 this.2).2 z⟩⟩
 refine⟨(h.fi.mono (aH _) h2).or (k.fi.mono h1 (aH _)),(h.la.mono (aH _) h2).or (k.la.mono h1 (aH _)),fun q a b=>?_,fun x=>?_⟩
 .rcases eK q mid with c|c
  .exact(h.fo q a c).mono (aH _) h2
  .exact(k.fo q c b).mono h1 (aH _)
 .unfold Lu;rw[<-h.eq x,<-k.eq x];unfold fV;constructor
  .rintro(⟨a,b⟩|⟨q,a,b⟩)
   .rw[pJ]at b;rcases b with b|b
    .exact .inl (.inl ⟨a,b⟩)
    .exact .inr (.inl ⟨a,b⟩)
   .rw[jD,pJ]at a;rcases a with a|a
    .exact .inl (.inr ⟨q,a,(left x q (h.fi q a).1 (h.fi q a).2).1 b⟩)
    .exact .inr (.inr ⟨q,a,(right x q (k.fi q a).1 (k.fi q a).2).1 b⟩)
  .rintro((⟨a,b⟩|⟨q,a,b⟩)|(⟨a,b⟩|⟨q,a,b⟩))
   .exact .inl ⟨a,by rw[b];rfl⟩
   .exact .inr ⟨q,by rw[jD,a];rfl,(left x q (h.fi q a).1 (h.fi q a).2).2 b⟩
   .exact .inl ⟨a,by rw[b,Gk]⟩
   .exact .inr ⟨q,by rw[jD,a,Gk],(right x q (k.fi q a).1 (k.fi q a).2).2 b⟩
def gW(F:Nat->Nat)(ends starts:Nat):Nat->Nat:=fun q=>if ends.testBit q then F q ||| starts else F q
theorem FH(F:Nat->Nat)(a b q r:Nat):(gW F a b q).testBit r=true↔(F q).testBit r=true\/(a.testBit q=true/\b.testBit r=true):=by
 unfold gW;split
 .rename_i h;rw[jD,pJ];simp[h]
 .rename_i h;simp[h]
theorem IZ(h:In lo hi s)(hq:q<lo\/hi<=q):s.testBit q=false:=by
 cases e:s.testBit q with
 |false=>rfl
 |true=>have:=h q e;omega
theorem jE.chain{L M:cC}(h:jE B F lo mid e1 f1 l1 L)(k:jE B F mid hi e2 f2 l2 M)(h1:lo<=mid)(h2:mid<=hi):jE B (gW F l1 f2) lo hi (e1 && e2) (if e1 then f1 ||| f2 else f1) (if e2 then l1 ||| l2 else l2) (FE L M):=by
 have La:∀q,(if e2 then l1 ||| l2 else l2).testBit q=true↔l2.testBit q=true\/(e2=true/\l1.testBit q=true):=by
  intro q;cases e2<;>simp[or_comm]
 have Fi:∀q,(if e1 then f1 ||| f2 else f1).testBit q=true↔f1.testBit q=true\/(e1=true/\f2.testBit q=true):=by
  intro q;cases e1<;>simp
 generalize (if e2 then l1 ||| l2 else l2)=la at *;generalize (if e1 then f1 ||| f2 else f1)=fi at *;have right:∀(x:List Nat) (q:Nat),mid<=q->q<hi->(rd B (gW F l1 f2) la q x↔rd B F l2 q x):=by
  intro x;induction x with
  |nil=>intro q _ _;exact Iff.rfl
  |cons c cs ih =>
   intro q a b;have n1:=IZ h.la (q:=q) (.inr a);simp only[rd,La,FH,n1];simp only[acV,and_false,false_and,or_false];constructor
   .rintro⟨x,y|⟨r,y,z⟩⟩
    .exact⟨x,.inl y⟩
    .have:=k.fo q a b r y;exact⟨x,.inr ⟨r,y,(ih r this.1 this.2).1 z⟩⟩
   .rintro⟨x,y|⟨r,y,z⟩⟩
    .exact⟨x,.inl y⟩
    .have:=k.fo q a b r y;exact⟨x,.inr ⟨r,y,(ih r this.1 this.2).2 z⟩⟩
 have left:∀(x:List Nat) (q:Nat),lo<=q->q<mid->(rd B (gW F l1 f2) la q x↔∃y z,x=y++z/\rd B F l1 q y/\fV B F e2 f2 l2 z):=by
  intro x;induction x with
  |nil =>
   intro q _ _;constructor
   .intro a;exact a.elim
   .rintro⟨y,z,e,a,_⟩;(have:y=[]:=by cases y with|nil=>rfl|cons _ _=>simp at e);subst this;exact a.elim
  |cons c cs ih =>
   intro q a b;have n2:=IZ k.la (q:=q) (.inl b);constructor
   .rintro⟨u,⟨v,w⟩|⟨r,v,w⟩⟩
    .rw[La,n2]at w;simp only[acV,false_or]at w;subst v;exact⟨[c],[],rfl,⟨u,.inl ⟨rfl,w.2⟩⟩,.inl ⟨rfl,w.1⟩⟩
    .rw[FH]at v;rcases v with v|⟨v1,v2⟩
     .have hr:=h.fo q a b r v;obtain⟨y,z,e,s,t⟩:=(ih r hr.1 hr.2).1 w;exact⟨c::y,z,by rw[e];rfl,⟨u,.inr ⟨r,v,s⟩⟩,t⟩
     .have hr:=k.fi r v2;exact⟨[c],cs,rfl,⟨u,.inl ⟨rfl,v1⟩⟩,.inr ⟨r,v2,(right cs r hr.1 hr.2).1 w⟩⟩
   .rintro⟨y,z,e,s,t⟩;cases y with
    |nil=>exact s.elim
    |cons d y =>
     simp only[aaj,List.cons.injEq]at e;obtain⟨rfl,rfl⟩:=e;obtain⟨u,⟨v,v2⟩|⟨r,v,v2⟩⟩:=s
     .subst v;rcases t with⟨t1,t2⟩|⟨r,t1,t2⟩
      .subst t1;exact⟨u,.inl ⟨rfl,(La q).2 (.inr ⟨t2,v2⟩)⟩⟩
      .have hr:=k.fi r t1;exact⟨u,.inr ⟨r,(FH _ _ _ _ _).2 (.inr ⟨v2,t1⟩),(right _ r hr.1 hr.2).2 t2⟩⟩
     .have hr:=h.fo q a b r v;exact⟨u,.inr ⟨r,(FH _ _ _ _ _).2 (.inl v),(ih r hr.1 hr.2).2 ⟨y,z,rfl,v2,t⟩⟩⟩
 refine⟨fun q hq=>?_,fun q hq=>?_,fun q a b r hr=>?_,fun x=>?_⟩
 .rcases(Fi q).1 hq with c|⟨_,c⟩
  .have:=h.fi q c;omega
  .have:=k.fi q c;omega
 .rcases(La q).1 hq with c|⟨_,c⟩
  .have:=k.la q c;omega
  .have:=h.la q c;omega
 .rcases(FH _ _ _ _ _).1 hr with c|⟨_,c⟩
  .rcases eK q mid with d|d
   .have:=h.fo q a d r c;omega
   .have:=k.fo q d b r c;omega
  .have:=k.fi r c;omega
 .unfold FE;constructor
  .rintro(⟨a,b⟩|⟨q,a,b⟩)
   .rw[Bool.and_eq_true]at b;exact⟨[],[],by rw[a];rfl,(h.eq _).1 (.inl ⟨rfl,b.1⟩),(k.eq _).1 (.inl ⟨rfl,b.2⟩)⟩
   .rcases(Fi q).1 a with c|⟨c1,c2⟩
    .have hq:=h.fi q c;obtain⟨y,z,e,s,t⟩:=(left x q hq.1 hq.2).1 b;exact⟨y,z,e,(h.eq _).1 (.inr ⟨q,c,s⟩),(k.eq _).1 t⟩
    .have hq:=k.fi q c2;exact⟨[],x,rfl,(h.eq _).1 (.inl ⟨rfl,c1⟩),(k.eq _).1 (.inr ⟨q,c2,(right x q hq.1 hq.2).1 b⟩)⟩
  .rintro⟨y,z,e,s,t⟩;rw[<-h.eq]at s;rw[<-k.eq]at t;rcases s with⟨s1,s2⟩|⟨q,s1,s2⟩
   .subst s1;rw[List.nil_append]at e;subst e;rcases t with⟨t1,t2⟩|⟨q,t1,t2⟩
    .exact .inl ⟨t1,by rw[s2,t2];rfl⟩
    .have hq:=k.fi q t1;exact .inr ⟨q,(Fi q).2 (.inr ⟨s2,t1⟩),(right x q hq.1 hq.2).2 t2⟩
   .have hq:=h.fi q s1;exact .inr ⟨q,(Fi q).2 (.inl s1),(left x q hq.1 hq.2).2 ⟨y,z,e,s2,t⟩⟩
theorem acg(hf:In lo hi f)(ho:∀q,lo<=q->q<hi->In lo hi (F q)):∀(x:List Nat) (q:Nat),lo<=q->q<hi->(rd B (gW F l f) l q x↔∃y z,x=y++z/\rd B F l q y/\(z=[]\/∃r,f.testBit r=true/\rd B (gW F l f) l r z)):=by
 intro x;induction x with
 |nil =>
  intro q _ _;constructor
  .intro a;exact a.elim
  .rintro⟨y,z,e,a,_⟩;(have:y=[]:=by cases y with|nil=>rfl|cons _ _=>simp at e);subst this;exact a.elim
 |cons c cs ih =>
  intro q a b;constructor
  .rintro⟨u,⟨v,w⟩|⟨r,v,w⟩⟩
   .subst v;exact⟨[c],[],rfl,⟨u,.inl ⟨rfl,w⟩⟩,.inl rfl⟩
   .rw[FH]at v;rcases v with v|⟨v1,v2⟩
    .have hr:=ho q a b r v;obtain⟨y,z,e,s,t⟩:=(ih r hr.1 hr.2).1 w;exact⟨c::y,z,by rw[e];rfl,⟨u,.inr ⟨r,v,s⟩⟩,t⟩
    .exact⟨[c],cs,rfl,⟨u,.inl ⟨rfl,v1⟩⟩,.inr ⟨r,v2,w⟩⟩
  .rintro⟨y,z,e,s,t⟩;cases y with
   |nil=>exact s.elim
   |cons d y =>
    simp only[aaj,List.cons.injEq]at e;obtain⟨rfl,rfl⟩:=e;obtain⟨u,⟨v,v2⟩|⟨r,v,v2⟩⟩:=s
    .subst v;rcases t with t1|⟨r,t1,t2⟩
     .subst t1;exact⟨u,.inl ⟨rfl,v2⟩⟩
     .exact⟨u,.inr ⟨r,(FH _ _ _ _ _).2 (.inr ⟨v2,t1⟩),t2⟩⟩
    .have hr:=ho q a b r v;exact⟨u,.inr ⟨r,(FH _ _ _ _ _).2 (.inl v),(ih r hr.1 hr.2).2 ⟨y,z,rfl,v2,t⟩⟩⟩
theorem agF{x:List Nat}(h:rd B F l q x):x≠[]:=by
 rintro rfl;exact h.elim
theorem afO{L:cC}(h:jE B F lo hi e f l L):∀(n:Nat) (x:List Nat),ae x<=n->(∃q,f.testBit q=true/\rd B (gW F l f) l q x)->∃m,IB L (m+1) x:=by
 intro n;induction n with
 |zero =>
  rintro x hx ⟨q,_,hr⟩;exact absurd (Et (by omega)) (agF hr)
 |succ n ih =>
  rintro x hx ⟨q,hq,hr⟩;have hi:=h.fi q hq;obtain⟨y,z,e1,s,t⟩:=(acg h.fi h.fo x q hi.1 hi.2).1 hr;have hL:L y:=(h.eq y).1 (.inr ⟨q,hq,s⟩);have hy:0<ae y:=List.length_pos_iff.2 (agF s);rcases t with t|t
  .subst t;exact⟨0,y,[],e1,hL,rfl⟩
  ·(have hz:(ae z)<=n:=by have:=congrArg ae e1;simp at this;omega);obtain⟨m,hm⟩:=ih z hz t;exact⟨m+1,y,z,e1,hL,hm⟩
theorem agv{L:cC}(h:jE B F lo hi e f l L):∀(n:Nat) (x:List Nat),IB L (n+1) x->fV B (gW F l f) e f l x:=by
 intro n;induction n with
 |zero =>
  rintro x ⟨y,z,rfl,hy,hz⟩;have hz':z=[]:=hz;subst hz';rw[List.append_nil];rw[<-h.eq]at hy;rcases hy with hy|⟨q,hq,hr⟩
  .exact .inl hy
  .have hi:=h.fi q hq;exact .inr ⟨q,hq,(acg h.fi h.fo y q hi.1 hi.2).2 ⟨y,[],by simp,hr,.inl rfl⟩⟩
 |succ n ih =>
  rintro x ⟨y,z,rfl,hy,hz⟩;have hz':=ih z hz;rw[<-h.eq]at hy;rcases hy with⟨pB,pW⟩|⟨q,hq,hr⟩
  .subst pB;exact hz'
  .have hi:=h.fi q hq;refine .inr ⟨q,hq,(acg h.fi h.fo _ q hi.1 hi.2).2 ⟨y,z,rfl,hr,?_⟩⟩;rcases hz' with⟨a,_⟩|a
   .exact .inl a
   .exact .inr a
theorem afN{L:cC}(h:jE B F lo hi e f l L)(q:Nat)(a:lo<=q)(b:q<hi):In lo hi (gW F l f q):=by
 intro r hr;rcases(FH _ _ _ _ _).1 hr with c|⟨_,c⟩
 .exact h.fo q a b r c
 .exact h.fi r c
theorem jE.plus{L:cC}(h:jE B F lo hi e f l L):jE B (gW F l f) lo hi e f l (Lv L):=by
 refine⟨h.fi,h.la,afN h,fun x=>⟨?_,?_⟩⟩
 .rintro(⟨a,b⟩|a)
  .subst a;exact⟨0,[],[],rfl,(h.eq _).1 (.inl ⟨rfl,b⟩),rfl⟩
  .exact afO h (ae x) x (aH _) a
 .rintro⟨n,hn⟩;exact agv h n x hn
theorem jE.star{L:cC}(h:jE B F lo hi e f l L):jE B (gW F l f) lo hi true f l (TO L):=by
 refine⟨h.fi,h.la,afN h,fun x=>⟨?_,?_⟩⟩
 .rintro(⟨a,_⟩|a)
  .exact⟨0,a⟩
  .obtain⟨m,hm⟩:=afO h (ae x) x (aH _) a;exact⟨m+1,hm⟩
 .rintro⟨n,hn⟩;cases n with
  |zero=>exact .inl ⟨hn,rfl⟩
  |succ n =>
   rcases agv h n x hn with⟨a,_⟩|a
   .exact .inl ⟨a,rfl⟩
   .exact .inr a
theorem jE.opt{L:cC}(h:jE B F lo hi e f l L):jE B F lo hi true f l (Oz L):=by
 refine⟨h.fi,h.la,h.fo,fun x=>?_⟩;unfold Oz;rw[<-h.eq x];constructor
 .rintro(⟨a,_⟩|a)
  .exact .inl a
  .exact .inr (.inr a)
 .rintro(a|⟨a,_⟩|a)
  .exact .inl ⟨a,rfl⟩
  .exact .inl ⟨a,rfl⟩
  .exact .inr a
end
inductive aD where
 |aX:aD
 |set (m:Nat):aD
 |cat (a b:aD):aD
 |alt (a b:aD):aD
 |star (a:aD):aD
 |plus (a:aD):aD
 |opt (a:aD):aD
def aD.fV:aD->cC
 |.aX=>Oy
 |.set m=>Lw m
 |.cat a b=>FE a.fV b.fV
 |.alt a b=>Lu a.fV b.fV
 |.star a=>TO a.fV
 |.plus a=>Lv a.fV
 |.opt a=>Oz a.fV
def iQ(s:ByteArray):Nat->aD->Nat->PR aD
 |0,L,i=>good i L
 |n+1,L,i =>
  if gt s i=42 then iQ s n (aD.star L) (i+1)
  else if gt s i=43 then iQ s n (aD.plus L) (i+1)
  else if gt s i=63 then iQ s n (aD.opt L) (i+1)
  else good i L
def pp(s:ByteArray):Nat->Nat->aD->Nat->PR aD
 |0,_,acc,_=>de s 99 0 acc
 |n+1,tag,acc,i =>
  if tag=0 then
   if gt s i=124 then
    let a:=pp s n 1 aD.aX (i+1)
    if a.err≠0 then a else pp s n 0 (aD.alt acc a.v) a.j
   else good i acc
  else if tag=1 then
   if gt s i=0\/gt s i=124\/gt s i=41 then good i acc
   else
    let a:=pp s n 2 aD.aX i
    if a.err≠0 then a
    else
     let b:=iQ s 20 a.v a.j
     pp s n 1 (aD.cat acc b.v) b.j
  else if gt s i=40 then
   let a:=pp s n 1 aD.aX (i+1)
   if a.err≠0 then a
   else
    let b:=pp s n 0 a.v a.j
    if b.err≠0 then b else if gt s b.j=0 then de s 4 s.size acc else good (b.j+1) b.v
  else if gt s i=91 then
   let a:=gG s (i+1)
   if a.err≠0 then⟨a.err,a.pl,a.j,acc⟩ else good a.j (aD.set a.v)
  else if gt s i=46 then good (i+1) (aD.set (kZ (1 <<< 10)))
  else if gt s i=92 then(if gt s (i+1)=0 then de s 4 s.size acc else good (i+2) (aD.set (1 <<< gt s (i+1))))
  else if gt s i=42\/gt s i=43\/gt s i=63\/gt s i=93 then de s 5 i acc
  else good (i+1) (aD.set (1 <<< gt s i))
theorem Uq(s:ByteArray)(hz:∀j,gt s j=0↔s.size<=j):∀(n:Nat) (L:aD) (i:Nat),i<=s.size->(iQ s n L i).err=0/\(iQ s n L i).pl=0/\i<=(iQ s n L i).j/\(iQ s n L i).j<=s.size:=by
 intro n;induction n with
 |zero=>intro L i hi;exact⟨rfl,rfl,aH _,hi⟩
 |succ n ih =>
  intro L i hi;have h0:=hz i;unfold iQ;by_cases h1:gt s i=42
  .rw[aA h1];have:=ih (aD.star L) (i+1) (by omega);exact⟨this.1,this.2.1,by omega,this.2.2.2⟩
  .rw[az h1];by_cases h2:gt s i=43
   .rw[aA h2];have:=ih (aD.plus L) (i+1) (by omega);exact⟨this.1,this.2.1,by omega,this.2.2.2⟩
   .rw[az h2];by_cases h3:gt s i=63
    .rw[aA h3];have:=ih (aD.opt L) (i+1) (by omega);exact⟨this.1,this.2.1,by omega,this.2.2.2⟩
    .rw[az h3];exact⟨rfl,rfl,aH _,hi⟩
section
variable{B F:Nat->Nat}{lo hi f l mid f1 l1 f2 l2:Nat}{e e1 e2:Bool}
def aD.np:aD->Nat
 |.aX=>0
 |.set _=>1
 |.cat a b=>a.np+b.np
 |.alt a b=>a.np+b.np
 |.star a=>a.np
 |.plus a=>a.np
 |.opt a=>a.np
def aD.em:aD->Bool
 |.aX=>true
 |.set _=>false
 |.cat a b=>a.em && b.em
 | .alt a b=>a.em || b.em
 |.star _=>true
 |.plus a=>a.em
 |.opt _=>true
def aD.fi:aD->Nat->Nat
 |.aX,_=>0
 |.set _,lo=>1 <<< lo
 | .cat a b,lo=>if a.em then a.fi lo ||| b.fi (lo+a.np) else a.fi lo
 | .alt a b,lo=>a.fi lo ||| b.fi (lo+a.np)
 |.star a,lo=>a.fi lo
 |.plus a,lo=>a.fi lo
 |.opt a,lo=>a.fi lo
def aD.la:aD->Nat->Nat
 |.aX,_=>0
 |.set _,lo=>1 <<< lo
 | .cat a b,lo=>if b.em then a.la lo ||| b.la (lo+a.np) else b.la (lo+a.np)
 | .alt a b,lo=>a.la lo ||| b.la (lo+a.np)
 |.star a,lo=>a.la lo
 |.plus a,lo=>a.la lo
 |.opt a,lo=>a.la lo
def aD.fo:aD->Nat->Nat->Nat
 |.aX,_,_=>0
 |.set _,_,_=>0
 | .cat a b,lo,q=>if q<lo+a.np then(if (a.la lo).testBit q then a.fo lo q ||| b.fi (lo+a.np) else a.fo lo q) else b.fo (lo+a.np) q
 |.alt a b,lo,q=>if q<lo+a.np then a.fo lo q else b.fo (lo+a.np) q
 | .star a,lo,q=>if (a.la lo).testBit q then a.fo lo q ||| a.fi lo else a.fo lo q
 | .plus a,lo,q=>if (a.la lo).testBit q then a.fo lo q ||| a.fi lo else a.fo lo q
 |.opt a,lo,q=>a.fo lo q
def aD.ie:aD->Nat->Nat
 |.aX,_=>0
 |.set m,_=>m
 |.cat a b,q=>if q<a.np then a.ie q else b.ie (q-a.np)
 |.alt a b,q=>if q<a.np then a.ie q else b.ie (q-a.np)
 |.star a,q=>a.ie q
 |.plus a,q=>a.ie q
 |.opt a,q=>a.ie q
structure gI(B F:Nat->Nat)(lo hi:Nat)(e:Bool)(first last:Nat)(a:aD):Prop where
 fi:In lo hi first
 la:In lo hi last
 n:hi=lo+a.np
 em:e=a.em
 yD:first=a.fi lo
 xF:last=a.la lo
 BJ:∀q,lo<=q->q<hi->F q=a.fo lo q
 by':∀q,lo<=q->q<hi->B q=a.ie (q-lo)
theorem gI.congr{B' F':Nat->Nat}{first last:Nat}{a:aD}(h:gI B F lo hi e first last a)(hB:∀q,q<hi->B' q=B q)(hF:∀q,lo<=q->q<hi->F' q=F q):gI B' F' lo hi e first last a :=
 ⟨h.fi,h.la,h.n,h.em,h.yD,h.xF,fun q h1 h2=>(hF q h1 h2).trans (h.BJ q h1 h2),fun q h1 h2=>(hB q h2).trans (h.by' q h1 h2)⟩
theorem gI.aX(B F:Nat->Nat)(n:Nat):gI B F n n true 0 0 .aX :=
 ⟨In.zero _ _,In.zero _ _,rfl,rfl,rfl,rfl,fun q h1 h2=>by omega,fun q h1 h2=>by omega⟩
theorem gI.single(B F:Nat->Nat)(n:Nat)(hF:F n=0):gI B F n (n+1) false (1 <<< n) (1 <<< n) (.set (B n)) :=
 ⟨In.one (aH _) (by omega),In.one (aH _) (by omega),rfl,rfl,rfl,rfl,fun q h1 h2=>by rw[show q=n by omega];exact hF,fun q h1 h2=>by rw[show q=n by omega];rfl⟩
theorem gI.either{a b:aD}(h:gI B F lo mid e1 f1 l1 a)(k:gI B F mid hi e2 f2 l2 b)(_:lo<=mid)(_:mid<=hi):gI B F lo hi (e1 || e2) (f1 ||| f2) (l1 ||| l2) (.alt a b):=by
 have hn:=h.n;have kn:=k.n;have hm:mid=lo+a.np:=hn;refine⟨(h.fi.mono (aH _) (by omega)).or (k.fi.mono (by omega) (aH _)),(h.la.mono (aH _) (by omega)).or (k.la.mono (by omega) (aH _)),by show hi=lo+(a.np+b.np);omega,by rw[h.em,k.em];rfl,by rw[h.yD,k.yD,hm];rfl,by rw[h.xF,k.xF,hm];rfl,fun q h1 h2=>?_,fun q h1 h2=>?_⟩
 .show F q=if q<lo+a.np then a.fo lo q else b.fo (lo+a.np) q
  by_cases z:q<lo+a.np
  .rw[aA z];exact h.BJ q h1 (by omega)
  .rw[az z,k.BJ q (by omega) h2,hm]
 .show B q=if q-lo<a.np then a.ie (q-lo) else b.ie (q-lo-a.np)
  by_cases z:q-lo<a.np
  .rw[aA z];exact h.by' q h1 (by omega)
  .rw[az z,k.by' q (by omega) h2,hm,Nat.sub_sub]
theorem gI.chain{a b:aD}(h:gI B F lo mid e1 f1 l1 a)(k:gI B F mid hi e2 f2 l2 b)(_:lo<=mid)(_:mid<=hi):gI B (gW F l1 f2) lo hi (e1 && e2) (if e1 then f1 ||| f2 else f1) (if e2 then l1 ||| l2 else l2) (.cat a b):=by
 have hn:=h.n;have kn:=k.n;have hm:mid=lo+a.np:=hn;have m1:=h.fi.mono (lo':=lo) (hi':=hi) (aH _) (by omega);have m2:=k.fi.mono (lo':=lo) (hi':=hi) (by omega) (aH _);have m3:=h.la.mono (lo':=lo) (hi':=hi) (aH _) (by omega);have m4:=k.la.mono (lo':=lo) (hi':=hi) (by omega) (aH _);refine⟨by split;exact m1.or m2;exact m1,by split;exact m3.or m4;exact m4,by show hi=lo+(a.np+b.np);omega,by rw[h.em,k.em];rfl,by rw[h.yD,k.yD,h.em,hm];rfl,by rw[h.xF,k.xF,k.em,hm];rfl,fun q h1 h2=>?_,fun q h1 h2=>?_⟩
 .show gW F l1 f2 q=if q<lo+a.np then(if (a.la lo).testBit q then a.fo lo q ||| b.fi (lo+a.np) else a.fo lo q) else b.fo (lo+a.np) q
  unfold gW;by_cases z:q<lo+a.np
  .rw[aA z,h.BJ q h1 (by omega),h.xF,k.yD,hm]
  .rw[az z,IZ h.la (.inr (by omega)),k.BJ q (by omega) h2,hm];rfl
 .show B q=if q-lo<a.np then a.ie (q-lo) else b.ie (q-lo-a.np)
  by_cases z:q-lo<a.np
  .rw[aA z];exact h.by' q h1 (by omega)
  .rw[az z,k.by' q (by omega) h2,hm,Nat.sub_sub]
theorem gI.plus{a:aD}(h:gI B F lo hi e f l a):gI B (gW F l f) lo hi e f l (.plus a) :=
 ⟨h.fi,h.la,h.n,h.em,h.yD,h.xF,fun q h1 h2=>by
  show gW F l f q=if (a.la lo).testBit q then a.fo lo q ||| a.fi lo else a.fo lo q
  unfold gW
  rw[h.BJ q h1 h2,h.xF,h.yD],h.by'⟩
theorem gI.star{a:aD}(h:gI B F lo hi e f l a):gI B (gW F l f) lo hi true f l (.star a) :=
 ⟨h.fi,h.la,h.n,rfl,h.yD,h.xF,fun q h1 h2=>by
  show gW F l f q=if (a.la lo).testBit q then a.fo lo q ||| a.fi lo else a.fo lo q
  unfold gW
  rw[h.BJ q h1 h2,h.xF,h.yD],h.by'⟩
theorem gI.opt{a:aD}(h:gI B F lo hi e f l a):gI B F lo hi true f l (.opt a) :=
 ⟨h.fi,h.la,h.n,rfl,h.yD,h.xF,h.BJ,h.by'⟩
end
theorem agu:∀(a:aD) (lo:Nat) (B:Nat->Nat),(∀q,lo<=q->q<lo+a.np->B q=a.ie (q-lo))->jE B (a.fo lo) lo (lo+a.np) a.em (a.fi lo) (a.la lo) a.fV:=by
 intro a;induction a with
 |aX=>intro lo B _;exact jE.aX B _ lo
 |set m =>
  intro lo B hB;have h:=jE.single B (aD.fo (.set m) lo) lo rfl;have e:B lo=m:=by
   have:=hB lo (aH _) (by show lo<lo+1;omega);rw[this];rfl
  rw[e]at h;exact h
 |cat a b iha ihb =>
  intro lo B hB;have ha:=iha lo B (fun q h1 h2=>by
   rw[hB q h1 (by show q<lo+(a.np+b.np);omega)];show(if q-lo<a.np then a.ie (q-lo) else b.ie (q-lo-a.np))=_;rw[aA (by omega)])
  have hb:=ihb (lo+a.np) B (fun q h1 h2=>by
   rw[hB q (by omega) (by show q<lo+(a.np+b.np);omega)];show(if q-lo<a.np then a.ie (q-lo) else b.ie (q-lo-a.np))=_;rw[az (by omega),Nat.sub_sub])
  have ha':=ha.congr (B':=B) (F':=fun q=>if q<lo+a.np then a.fo lo q else b.fo (lo+a.np) q) (fun _ _=>rfl) (fun q h1 h2=>by show(if q<lo+a.np then a.fo lo q else _)=_;rw[aA h2]);have hb':=hb.congr (B':=B) (F':=fun q=>if q<lo+a.np then a.fo lo q else b.fo (lo+a.np) q) (fun _ _=>rfl) (fun q h1 h2=>by show(if q<lo+a.np then a.fo lo q else _)=_;rw[az (by omega)]);have h:=(jE.chain ha' hb' (by omega) (by omega)).congr (B':=B) (F':=aD.fo (.cat a b) lo) (fun _ _=>rfl) (fun q h1 h2=>by
   show(if q<lo+a.np then(if (a.la lo).testBit q then a.fo lo q ||| b.fi (lo+a.np) else a.fo lo q) else b.fo (lo+a.np) q)=gW (fun q=>if q<lo+a.np then a.fo lo q else b.fo (lo+a.np) q) (a.la lo) (b.fi (lo+a.np)) q;unfold gW;by_cases z:q<lo+a.np
   .rw[aA z];show _=if (a.la lo).testBit q then(if q<lo+a.np then a.fo lo q else b.fo (lo+a.np) q) ||| b.fi (lo+a.np) else(if q<lo+a.np then a.fo lo q else b.fo (lo+a.np) q)
    rw[aA z]
   .rw[az z,IZ ha.la (.inr (by omega))];show _=if q<lo+a.np then a.fo lo q else b.fo (lo+a.np) q
    rw[az z])
  have e:lo+a.np+b.np=lo+aD.np (.cat a b):=by show _=lo+(a.np+b.np);omega
  rw[e]at h;exact h
 |alt a b iha ihb =>
  intro lo B hB;have ha:=iha lo B (fun q h1 h2=>by
   rw[hB q h1 (by show q<lo+(a.np+b.np);omega)];show(if q-lo<a.np then a.ie (q-lo) else b.ie (q-lo-a.np))=_;rw[aA (by omega)])
  have hb:=ihb (lo+a.np) B (fun q h1 h2=>by
   rw[hB q (by omega) (by show q<lo+(a.np+b.np);omega)];show(if q-lo<a.np then a.ie (q-lo) else b.ie (q-lo-a.np))=_;rw[az (by omega),Nat.sub_sub])
  have ha':=ha.congr (B':=B) (F':=aD.fo (.alt a b) lo) (fun _ _=>rfl) (fun q h1 h2=>by show(if q<lo+a.np then a.fo lo q else _)=_;rw[aA h2]);have hb':=hb.congr (B':=B) (F':=aD.fo (.alt a b) lo) (fun _ _=>rfl) (fun q h1 h2=>by show(if q<lo+a.np then a.fo lo q else _)=_;rw[az (by omega)]);have h:=jE.either ha' hb' (by omega) (by omega);have e:lo+a.np+b.np=lo+aD.np (.alt a b):=by show _=lo+(a.np+b.np);omega
  rw[e]at h;exact h
 |star a iha =>
  intro lo B hB;exact(iha lo B hB).star
 |plus a iha =>
  intro lo B hB;exact(iha lo B hB).plus
 |opt a iha =>
  intro lo B hB;exact(iha lo B hB).opt
theorem gI.part{B F:Nat->Nat}{lo hi:Nat}{e:Bool}{first last:Nat}{a:aD}(h:gI B F lo hi e first last a):jE B F lo hi e first last a.fV:=by
 have q:=(agu a lo B (fun q h1 h2=>h.by' q h1 (by rw[h.n];exact h2))).congr (B':=B) (F':=F) (fun _ _=>rfl) (fun q h1 h2=>h.BJ q h1 (by rw[h.n];exact h2));rw[<-h.n,<-h.em,<-h.yD,<-h.xF]at q;exact q
section
variable{p g N cap:Nat}{bs L:List Nat}
theorem UH(a b g:Nat)(w:ay)(h:w.heap[g]?=some (.cells #[.int .u64 (wd a 0),.int .u64 (wd a 1),.int .u64 (wd a 2),.int .u64 (wd a 3),.int .u64 (wd b 0),.int .u64 (wd b 1),.int .u64 (wd b 2),.int .u64 (wd b 3)] 65 (0,0))):aI aB 52 #[.slice (some ⟨g,0,none⟩) 2 2] w fun e w'=>e=.returned (cG (a ||| b))/\Below w.heap.size w w':=by
 refine(CP g 2 2 [a,b] w rfl (by decide) ?_ (aE h)).mono ?_
 .intro j hj i hi;rw[aF h];have hj':j=0\/j=1:=(by omega);have hi':i=0\/i=1\/i=2\/i=3:=(by omega);rcases hj' with rfl|rfl<;>rcases hi' with rfl|rfl|rfl|rfl<;>rfl
 .rintro _ w' ⟨rfl,hb⟩;exact⟨by simp,hb⟩
def lk(e st n x:Nat):Nat:=if e.testBit n then x ||| st else x
def uN(e st:Nat):Nat->List Nat->List Nat
 |0,fs=>fs
 |k+1,fs=>(uN e st k fs).set k (lk e st k ((uN e st k fs).getD k 0))
def uM(e st:Nat)(fs:List Nat):List Nat:=uN e st (ae fs) fs
theorem XS(e st:Nat)(fs:List Nat):∀k,(uN e st k fs).length=ae fs
 |0=>rfl
 |k+1=>by rw[uN,mq];exact XS e st fs k
theorem akg(l:List Nat)(k v:Nat)(hk:k<ae l):iZ (l.set k v)=((((iZ l).set (k*4) (.int .u64 (wd v 0))).set (k*4+1) (.int .u64 (wd v 1))).set (k*4+2) (.int .u64 (wd v 2))).set (k*4+3) (.int .u64 (wd v 3)):=by
 induction l generalizing k with
 |nil=>simp at hk
 |cons a l ih =>
  have e:∀(x:Nat) (m:List Nat),iZ (x::m)=.int .u64 (wd x 0) :: .int .u64 (wd x 1) :: .int .u64 (wd x 2) :: .int .u64 (wd x 3)::iZ m:=fun x m=>by simp[iZ]
  cases k with
  |zero=>rw[List.set_cons_zero,e,e];simp
  |succ k =>
   rw[eU,e,e,ih k (by simpa using hk)];have h4:(k+1)*4=k*4+4:=(by omega);rw[h4];simp[eU,Nat.add_assoc]
theorem dN.row{w:ay}{vb:aq}(h:dN w p bs L vb (.slice (some ⟨g,0,none⟩) N cap))(hl:(ae L)=N)(k:Nat)(hk:k<N):w.cell? ⟨g,k*4,none⟩=some (.int .u64 (wd (L.getD k 0) 0))/\w.cell? ⟨g,k*4+1,none⟩=some (.int .u64 (wd (L.getD k 0) 1))/\w.cell? ⟨g,k*4+2,none⟩=some (.int .u64 (wd (L.getD k 0) 2))/\w.cell? ⟨g,k*4+3,none⟩=some (.int .u64 (wd (L.getD k 0) 3))/\w.frozen? ⟨g,k*4,none⟩=false/\w.frozen? ⟨g,k*4+1,none⟩=false/\w.frozen? ⟨g,k*4+2,none⟩=false/\w.frozen? ⟨g,k*4+3,none⟩=false:=by
 have ho:w.ownsRow 0 65 4 (.slice (some ⟨g,0,none⟩) N cap) N (iZ L):=by have:=h.of;rw[hl]at this;exact this
 have c:∀i<4,w.cell? ⟨g,k*4+i,none⟩=some (.int .u64 (wd (L.getD k 0) i)):=fun i hi=>by
  rw[ho.cellAt (k*4+i) (by omega)];exact BH L k (by omega) i hi
 exact⟨c 0 (by omega),c 1 (by omega),c 2 (by omega),c 3 (by omega),ho.frozenAt _,ho.frozenAt _,ho.frozenAt _,ho.frozenAt _⟩
theorem Kp.agY{xs:List Nat}{w w1:ay}(h:Kp xs w w1){b:Nat}(hb:b∈xs\/w.heap.size<=b)(k:Nat)(v0 v1 v2 v3:aq):Kp xs w ((((w1.setCell ⟨b,k,none⟩ v0).setCell ⟨b,k+1,none⟩ v1).setCell ⟨b,k+2,none⟩ v2).setCell ⟨b,k+3,none⟩ v3):=(((h.set hb _ _).set hb _ _).set hb _ _).set hb _ _
theorem dN.store{w:ay}{vb:aq}(h:dN w p bs L vb (.slice (some ⟨g,0,none⟩) N cap))(hl:(ae L)=N)(k:Nat)(hk:k<N)(v:Nat):dN ((((w.setCell ⟨g,k*4,none⟩ (.int .u64 (wd v 0))).setCell ⟨g,k*4+1,none⟩ (.int .u64 (wd v 1))).setCell ⟨g,k*4+2,none⟩ (.int .u64 (wd v 2))).setCell ⟨g,k*4+3,none⟩ (.int .u64 (wd v 3))) p bs (L.set k v) vb (.slice (some ⟨g,0,none⟩) N cap):=by
 have kk:=(Kp.refl [g] w).agY (b:=g) (.inl (by simp)) (k*4) (.int .u64 (wd v 0)) (.int .u64 (wd v 1)) (.int .u64 (wd v 2)) (.int .u64 (wd v 3));have hgp:g≠p:=fun e=>h.nf (by rw[<-e];rfl)
 have ho:w.ownsRow 0 65 4 (.slice (some ⟨g,0,none⟩) N cap) N (iZ L):=by have:=h.of;rw[hl]at this;exact this
 refine⟨kk.keep h.blk (by simp;exact fun e=>hgp e.symm),aJ h.ob kk (fun q e hm=>by simp at hm;subst hm;exact h.ne _ e rfl),?_,by rw[mq];exact h.len,h.nb,h.nf,h.ne⟩;rw[mq,hl,akg L k v (by omega)];exact((((ho.stored _ _).1.stored _ _).1.stored _ _).1.stored _ _).1
theorem alS(p e st g cap:Nat)(bs fs:List Nat)(vb:aq)(w:ay)(h:dN w p bs fs vb (.slice (some ⟨g,0,none⟩) (ae fs) cap))(hn:(ae fs)<=200):aI aB 113 #[.pointer (some ⟨p,0,none⟩),cG e,cG st] w fun x w'=>x=.returned (.tuple #[])/\dN w' p bs (uM e st fs) vb (.slice (some ⟨g,0,none⟩) (ae fs) cap)/\Kp (foot p vb (.slice (some ⟨g,0,none⟩) (ae fs) cap)) w w':=by
 have hp:=aE h.blk;have Tf:p≠w.heap.size:=(by omega);have abx:p≠w.heap.size+1:=(by omega);obtain⟨c0,c1,f0,f1⟩:=two h.blk;have HP:ax _:=h;have hg:g<w.heap.size:=h.lt g (n7.2 (.inr (.inr rfl)));generalize hN:(ae fs)=N at *;have HN:=aj hN;clear h hN;go_enter Tryz.func113,Tryz.ntmps113;go_wp2_with fail;go_loopw [12] (fun i w'=>∃k:Nat,k<=N/\i=.int .i64 k/\dN w' p bs (uN e st k fs) vb (.slice (some ⟨g,0,none⟩) N cap)/\Kp (foot p vb (.slice (some ⟨g,0,none⟩) N cap)) w w' /\
   w'.heap[w.heap.size]?=some (.cells #[.int .u64 (wd e 0),.int .u64 (wd e 1),.int .u64 (wd e 2),.int .u64 (wd e 3)] 65 (0,0)) /\
   w'.heap[w.heap.size+1]?=some (.cells #[.int .u64 (wd st 0),.int .u64 (wd st 1),.int .u64 (wd st 2),.int .u64 (wd st 3)] 65 (0,0)))
  (fun i _=>N-(intOf i).toNat)
 case atStart =>
  refine⟨0,by omega,rfl,HP.o.kp (((Kp.refl [] w).alloc _).alloc _) (by simp),((Kp.refl _ w).alloc _).alloc _,?_,?_⟩
  .simp only[aC,aM];simp
  .simp only[aC,aM];simp
 case round =>
  obtain⟨k,hk,rfl,P,kp,be,Hs⟩:=hrel;obtain⟨PK,BE,BS⟩:=cR P be Hs;have lr:w.heap.size+1<wr.heap.size:=aE Hs;have hkp:=aj kp;obtain⟨Ut,Uu,pf0,pf1⟩:=two P.blk;obtain⟨ec0,ec1,ec2,ec3,_⟩:=dB be;obtain⟨sc0,sc1,sc2,sc3,_⟩:=dB Hs;have dD:=XS e st fs k;rw[HN.o]at dD;have mh:=aj dD;clear c0 c1 f0 f1 P be Hs dD kp;by_cases aN:k<N
  ·(have Lp:IntKind.u8.wrap (k:Int)=k:=by simp[IntKind.wrap,IntKind.bits,IntKind.signed];omega);have gU:(k:Int)<N:=(by omega);go_wp2_with fail;refine(WQ e k _ (by omega)).mono ?_;rintro _ w1 ⟨rfl,h1⟩;by_cases hb:e.testBit k
   .have HB:=aj hb;have K1:=aj (hkp.o.below h1);have P1:=PK.o.kp ((Kp.refl [] wr).below h1) (by simp);have Km:=bV h1 BE.o;have kg:=bV h1 BS.o;generalize hL:uN e st k fs=L at *;have HL:=aj hL;clear hb hL Ut Uu pf0 pf1 ec0 ec1 ec2 ec3 sc0 sc1 sc2 sc3;obtain⟨g0,g1,g2,g3,gf0,gf1,gf2,gf3⟩:=P1.row mh.o k aN;(have ah2:ax (∀w',dN w' p bs L vb (.slice (some ⟨g,0,none⟩) N cap)->_):=fun w' h'=>h'.row mh.o k aN);generalize hX:L.getD k 0=X at *;have HX:=aj hX;obtain⟨Ut,Uu,pf0,pf1⟩:=two P1.blk;obtain⟨sc0,sc1,sc2,sc3,_⟩:=dB kg;have l1:=aE kg;have n1:p<w1.heap.size:=(by omega);have n2:g<w1.heap.size:=(by omega);obtain⟨Dk,BE1,BS1⟩:=cR P1 Km kg;clear P1 Km kg hX;rw[HB.o];go_wp2_with fail;go_region_with ((go_at_call 52;refine(UH X st _ _ (by rw[eO,aC,aA rfl])).mono ?_;rintro _ w2 ⟨rfl,h2⟩;have P2:=Dk.o.kp ((((Kp.refl [] w1).alloc _).drew).below h2) (by simp);obtain⟨_,x1,_⟩:=two P2.blk;obtain⟨y0,y1,y2,y3,yf0,yf1,yf2,yf3⟩:=ah2.o _ P2;have P2H:=aj P2;clear P2))
    all_goals
     have P4:dN ((((w2.setCell ⟨g,k*4,none⟩ (.int .u64 (wd (X ||| st) 0))).setCell ⟨g,k*4+1,none⟩ (.int .u64 (wd (X ||| st) 1))).setCell ⟨g,k*4+2,none⟩ (.int .u64 (wd (X ||| st) 2))).setCell ⟨g,k*4+3,none⟩ (.int .u64 (wd (X ||| st) 3))) p bs (uN e st (k+1) fs) vb (.slice (some ⟨g,0,none⟩) N cap):=by
      have e1:uN e st (k+1) fs=L.set k (X ||| st):=(by rw[uN,HL.o,HX.o,lk,aA HB.o]);rw[e1];exact P2H.o.store mh.o k aN (X ||| st)
     have K4:=(((K1.o.alloc (.cells #[.int .u64 (wd X 0),.int .u64 (wd X 1),.int .u64 (wd X 2),.int .u64 (wd X 3),.int .u64 (wd st 0),.int .u64 (wd st 1),.int .u64 (wd st 2),.int .u64 (wd st 3)] 65)).drew).below h2).agY (b:=g) (.inl (n7.2 (.inr (.inr rfl)))) (k*4) (.int .u64 (wd (X ||| st) 0)) (.int .u64 (wd (X ||| st) 1)) (.int .u64 (wd (X ||| st) 2)) (.int .u64 (wd (X ||| st) 3));go_wp2;refine⟨⟨k+1,by omega,by go_num,P4,K4,?_,?_⟩,by simp[intOf];omega⟩
     .simp only[aQ,az (show w.heap.size≠g by omega)];exact bV h2 (by rw[eO,aC,az (by omega)];exact BE1.o)
     .simp only[aQ,az (show w.heap.size+1≠g by omega)];exact bV h2 (by rw[eO,aC,az (by omega)];exact BS1.o)
   .have hb':e.testBit k=false:=(by simpa using hb);have HB:=aj hb';have K1:=hkp.o.below h1;have P1:=PK.o.kp ((Kp.refl [] wr).below h1) (by simp);have Km:=bV h1 BE.o;have kg:=bV h1 BS.o;clear hb hb';rw[HB.o];go_wp2;refine⟨⟨k+1,by omega,by go_num,?_,K1,Km,kg⟩,by simp[intOf];omega⟩;have e1:uN e st (k+1) fs=uN e st k fs:=by
     rw[uN,lk,az (by simp[HB.o])];rw[aO,bD (by rw[mh.o];exact aN)];simp
    rw[e1];exact P1
  .have jZ:k=N:=(by omega);have HK:=aj jZ;clear jZ;go_wp2;go_end0;refine⟨rfl,?_,hkp.o⟩;have:=PK.o;rw[HK.o]at this;rw[uM,HN.o];exact this
theorem alR(p e st cap:Nat)(a:Option Addr)(bs:List Nat)(vb:aq)(w:ay)(h:dN w p bs [] vb (.slice a 0 cap)):aI aB 113 #[.pointer (some ⟨p,0,none⟩),cG e,cG st] w fun x w'=>x=.returned (.tuple #[])/\dN w' p bs (uM e st []) vb (.slice a 0 cap)/\Kp (foot p vb (.slice a 0 cap)) w w':=by
 have hp:=aE h.blk;have Tf:p≠w.heap.size:=(by omega);have abx:p≠w.heap.size+1:=(by omega);obtain⟨c0,c1,f0,f1⟩:=two h.blk;have HP:ax _:=h;clear h;go_enter Tryz.func113,Tryz.ntmps113;go_wp2_with fail;go_rounds 1
 go_end0;exact⟨rfl,HP.o.kp (((Kp.refl [] w).alloc _).alloc _) (by simp),((Kp.refl _ w).alloc _).alloc _⟩
theorem abU(p e st:Nat)(bs fs:List Nat)(vb vf:aq)(w:ay)(h:dN w p bs fs vb vf)(hn:(ae fs)<=200):aI aB 113 #[.pointer (some ⟨p,0,none⟩),cG e,cG st] w fun x w'=>x=.returned (.tuple #[])/\dN w' p bs (uM e st fs) vb vf/\Kp (foot p vb vf) w w':=by
 rcases h.of.2 with⟨rfl,e0⟩|⟨g,cap,cur,rfl,_⟩
 .have:fs=[]:=Et e0;subst this;exact alR p e st 0 none bs vb w h
 .exact alS p e st g cap bs fs vb w h hn
end
theorem agc(w:ay):aI aB 99 #[] w fun x w'=>x=.returned (dQ true 0 0)/\Below w.heap.size w w':=by
 go_enter Tryz.func99,Tryz.ntmps99;go_wp2;refine cF (v:=dQ true 0 0) (kN (b:=w.heap.size) Tryz.results99 rfl (by simp only[aC,if_true];simp[xV])) rfl ⟨rfl,(kQ _ _).alloc (aH _) _⟩
theorem AD(a b g:Nat)(w:ay)(h:w.heap[g]?=some (.cells #[.int .u64 (wd a 0),.int .u64 (wd a 1),.int .u64 (wd a 2),.int .u64 (wd a 3),.int .u64 (wd b 0),.int .u64 (wd b 1),.int .u64 (wd b 2),.int .u64 (wd b 3)] 65 (0,0))):aI aB 52 #[.slice (some ⟨g,0,none⟩) 2 2] w fun e w'=>e=.returned (cG (a ||| b))/\Below w.heap.size w w':=by
 refine(CP g 2 2 [a,b] w rfl (by decide) ?_ (aE h)).mono ?_
 .intro j hj i hi;rw[aF h];have hj':j=0\/j=1:=(by omega);have hi':i=0\/i=1\/i=2\/i=3:=(by omega);rcases hj' with rfl|rfl<;>rcases hi' with rfl|rfl|rfl|rfl<;>rfl
 .rintro _ w' ⟨rfl,hb⟩;exact⟨by simp,hb⟩
theorem Ym(b:Nat)(x0 x1 x2 x3 x4 x5 x6 x7 x8:aq)(w:ay)(h:w.heap[b]?=some (CD x0 x1 x2 x3 x4 x5 x6 x7 x8)):w.cell? ⟨b,0,none⟩=some x0/\w.cell? ⟨b,1,none⟩=some x1/\w.cell? ⟨b,2,none⟩=some x2/\w.cell? ⟨b,3,none⟩=some x3/\w.cell? ⟨b,4,none⟩=some x4/\w.cell? ⟨b,5,none⟩=some x5/\w.cell? ⟨b,6,none⟩=some x6/\w.cell? ⟨b,7,none⟩=some x7/\w.cell? ⟨b,8,none⟩=some x8:=(gC h).1
abbrev cZ(e:Bool)(f l:Nat):Obj:=CD (.bool e) (.int .u64 (wd f 0)) (.int .u64 (wd f 1)) (.int .u64 (wd f 2)) (.int .u64 (wd f 3)) (.int .u64 (wd l 0)) (.int .u64 (wd l 1)) (.int .u64 (wd l 2)) (.int .u64 (wd l 3))
theorem ajO(f1 l1 f2 l2:Nat)(e2:Bool)(w:ay):aI aB 76 #[dQ false f1 l1,dQ e2 f2 l2] w fun x w'=>x=.returned (dQ e2 (f1 ||| f2) (l1 ||| l2))/\Below w.heap.size w w':=by
 go_enter Tryz.func76,Tryz.ntmps76;go_wp2_with fail;have bA:(((w.alloc (cZ false f1 l1)).alloc (cZ e2 f2 l2)).alloc cJ).heap[w.heap.size]?=some (cZ false f1 l1):=by simp only[aC,aM];rw[az (by omega),az (by omega),if_true]
 have bB:(((w.alloc (cZ false f1 l1)).alloc (cZ e2 f2 l2)).alloc cJ).heap[w.heap.size+1]?=some (cZ e2 f2 l2):=by simp only[aC,aM];rw[az (by omega),if_true]
 have bZ:(((w.alloc (cZ false f1 l1)).alloc (cZ e2 f2 l2)).alloc cJ).heap[w.heap.size+1+1]?=some cJ:=by simp only[aC,aM];rw[if_true]
 have bK:Below w.heap.size w (((w.alloc (cZ false f1 l1)).alloc (cZ e2 f2 l2)).alloc cJ):=(((Kp.refl [] _).alloc _).alloc _).alloc _ |>.toBelow
 generalize ((w.alloc (cZ false f1 l1)).alloc (cZ e2 f2 l2)).alloc cJ=W at *;have BZ:=aj bZ;have lZ:=aE bZ;have BK:=aj bK;generalize hA:w.heap.size=A at *;have HA:=aj hA;have cA:∀w',Below (A+2) W w'->w'.cell? ⟨A,0,none⟩=some (.bool false)/\w'.cell? ⟨A,1,none⟩=some (.int .u64 (wd f1 0))/\w'.cell? ⟨A,2,none⟩=some (.int .u64 (wd f1 1))/\w'.cell? ⟨A,3,none⟩=some (.int .u64 (wd f1 2))/\w'.cell? ⟨A,4,none⟩=some (.int .u64 (wd f1 3))/\w'.cell? ⟨A,5,none⟩=some (.int .u64 (wd l1 0))/\w'.cell? ⟨A,6,none⟩=some (.int .u64 (wd l1 1))/\w'.cell? ⟨A,7,none⟩=some (.int .u64 (wd l1 2))/\w'.cell? ⟨A,8,none⟩=some (.int .u64 (wd l1 3)) :=
  fun w' h=>Ym _ _ _ _ _ _ _ _ _ _ w' (by rw[h.block A (by omega)];exact bA)
 have cB:∀w',Below (A+2) W w'->w'.cell? ⟨A+1,0,none⟩=some (.bool e2)/\w'.cell? ⟨A+1,1,none⟩=some (.int .u64 (wd f2 0))/\w'.cell? ⟨A+1,2,none⟩=some (.int .u64 (wd f2 1))/\w'.cell? ⟨A+1,3,none⟩=some (.int .u64 (wd f2 2))/\w'.cell? ⟨A+1,4,none⟩=some (.int .u64 (wd f2 3))/\w'.cell? ⟨A+1,5,none⟩=some (.int .u64 (wd l2 0))/\w'.cell? ⟨A+1,6,none⟩=some (.int .u64 (wd l2 1))/\w'.cell? ⟨A+1,7,none⟩=some (.int .u64 (wd l2 2))/\w'.cell? ⟨A+1,8,none⟩=some (.int .u64 (wd l2 3)) :=
  fun w' h=>Ym _ _ _ _ _ _ _ _ _ _ w' (by rw[h.block (A+1) (by omega)];exact bB)
 clear bZ bA bB bK hA;have nA:A+2<=W.heap.size:=(by omega);go_region_held3 (fun w'=>Below (A+2) W w')
  (repeat (any_goals (first|with_reducible exact S3|with_reducible exact S2|with_reducible exact kQ _ _|with_reducible refine uq ?_|with_reducible refine Below.setCell ?_ ?_ _|with_reducible refine uo ?_ ?_ _|omega|(simp[aM,jo];done)|(simp[aM,jo];omega))))
  (first|(go_at_call 52;have _:=S2;refine(AD l1 l2 _ _ ?hs).mono ?_;(case hs=>first|(rw[aC,aA rfl];done)|(refine bV h2 ?_;simp only[eO,aC,aM];simp));rintro _ w3 ⟨rfl,h3⟩;have S3:Below (A+2) W w3:=Jt (by(repeat (any_goals (first|with_reducible exact S2|with_reducible refine uo ?_ ?_ _|omega)))) (h3.mono (by first|omega|(simp[aM];omega)));have sz3:=S3.size;(have z3:w3.heap[A+1+1]?=some cJ:=by refine bV h3 ?hz;(case hz=>first|(with_reducible exact Z2.o)|(rw[aC,az (bY yV)];exact Z2.o)));obtain⟨⟨oy,oz,oB,oC,sR,sS,sU,sV,sX⟩,pF,pG,pH,pI,uU,uV,uW,uX,uY⟩:=gC z3;have Z3:=aj z3;clear z3)|(go_at_call 52;refine(AD f1 f2 _ _ (by simp only[eO,aC,aM];simp)).mono ?_;rintro _ w2 ⟨rfl,h2⟩;have S2:Below (A+2) W w2:=Jt (by(repeat (any_goals (first|with_reducible exact kQ _ _|with_reducible refine uq ?_|with_reducible refine uo ?_ ?_ _|omega|(simp[aM,jo];omega))))) (h2.mono (by simp[aM,jo];omega));have YM:=S2.size;have z2:w2.heap[A+1+1]?=some cJ:=bV h2 (by simp only[eO,aC,aM];(first|(rw[az (by omega),az (by omega)];exact BZ.o)|(rw[az (by omega)];exact BZ.o)));have Z2:=aj z2;have yV:=aE z2;clear z2))
 all_goals
  go_wp2;refine cF (v:=dQ e2 (f1 ||| f2) (l1 ||| l2)) (kN (b:=A+1+1) Tryz.results76 rfl (by simp only[aQ,Z3.o];simp[eD])) rfl ⟨rfl,?_⟩;rw[HA.o];exact((((((((((BK.o.trans (S3.mono (by omega))).setCell (by simp;omega) _).setCell (by simp;omega) _).setCell (by simp;omega) _).setCell (by simp;omega) _).setCell (by simp;omega) _).setCell (by simp;omega) _).setCell (by simp;omega) _).setCell (by simp;omega) _).setCell (by simp;omega) _)
theorem Iw:(aB.info? 67).map (·.size)=some 9:=by kernel_rfl
theorem TH:(aB.info? 65).map (·.size)=some 4:=by kernel_rfl
theorem acF{w:ay}{b:Nat}{c:Array aq}{e:TypeId}(h:w.heap[b]?=some (.cells c e (0,0)))(o n:Nat)(hn:o+n<=c.size):w.there b o n:=fun j hj=>by
 rw[aF h,cM h]
 exact⟨by rw[Array.getElem?_eq_getElem (show o+j<c.size by omega)];rfl,rfl⟩
section
variable{ops:Array Oper}{rest:List Oper}{op:Oper}{a:Act}{w:ay}{Q:Exit->Act->ay->Prop}
theorem rL(iK:op.guard=none)(x y:Operand)(ho:op.op=.store 67 x y){b:Nat}{x0 x1 x2 x3 x4 x5 x6 x7 x8:aq}(hb:w.heap[b]?=some (CD x0 x1 x2 x3 x4 x5 x6 x7 x8))(hx:a.eval x=.pointer (some ⟨b,0,none⟩)){y0 y1 y2 y3 y4 y5 y6 y7 y8:aq}(hy:a.eval y=.agg #[y0,y1,y2,y3,y4,y5,y6,y7,y8])(h1:#[y0,y1,y2,y3,y4,y5,y6,y7,y8].all (·.oneCell')=true)(h:∀w',w'.heap[b]?=some (CD y0 y1 y2 y3 y4 y5 y6 y7 y8)->Kp [b] w w'->w'.heap.size=w.heap.size->wpList aB ops Q rest (a.put op.dst undef) w'):wpList aB ops Q (op::rest) a w:=by
 refine wpList_store_mid iK 67 x y ho b 0 _ hx hy (acF hb 0 _ (by simp)) (by simp[Iw]) h1 (h _ ?_ ?_ ?_)
 .simp only[G8,aQ,hb];simp[eD]
 .exact(Kp.refl _ _).mQ (by simp) _ _ _ _ _ _ _ _ _
 .simp[G8,iA]
theorem ahb(iK:op.guard=none)(x y:Operand)(ho:op.op=.store 65 x y){b:Nat}{x0 x1 x2 x3 x4 x5 x6 x7 x8:aq}(hb:w.heap[b]?=some (CD x0 x1 x2 x3 x4 x5 x6 x7 x8))(hx:a.eval x=.pointer (some ⟨b,1,none⟩)){y0 y1 y2 y3:aq}(hy:a.eval y=.agg #[y0,y1,y2,y3])(h1:#[y0,y1,y2,y3].all (·.oneCell')=true)(h:∀w',w'.heap[b]?=some (CD x0 y0 y1 y2 y3 x5 x6 x7 x8)->Kp [b] w w'->w'.heap.size=w.heap.size->wpList aB ops Q rest (a.put op.dst undef) w'):wpList aB ops Q (op::rest) a w:=by
 refine wpList_store_mid iK 65 x y ho b 1 _ hx hy (acF hb 1 _ (by simp)) (by simp[TH]) h1 (h _ ?_ ?_ ?_)
 .simp only[G8,aQ,hb];simp[eD]
 .exact(((((Kp.refl _ _).set (by simp) _ _).set (by simp) _ _).set (by simp) _ _).set (by simp) _ _)
 .simp[G8,iA]
theorem ahc(iK:op.guard=none)(x y:Operand)(ho:op.op=.store 65 x y){b:Nat}{x0 x1 x2 x3 x4 x5 x6 x7 x8:aq}(hb:w.heap[b]?=some (CD x0 x1 x2 x3 x4 x5 x6 x7 x8))(hx:a.eval x=.pointer (some ⟨b,5,none⟩)){y0 y1 y2 y3:aq}(hy:a.eval y=.agg #[y0,y1,y2,y3])(h1:#[y0,y1,y2,y3].all (·.oneCell')=true)(h:∀w',w'.heap[b]?=some (CD x0 x1 x2 x3 x4 y0 y1 y2 y3)->Kp [b] w w'->w'.heap.size=w.heap.size->wpList aB ops Q rest (a.put op.dst undef) w'):wpList aB ops Q (op::rest) a w:=by
 refine wpList_store_mid iK 65 x y ho b 5 _ hx hy (acF hb 5 _ (by simp)) (by simp[TH]) h1 (h _ ?_ ?_ ?_)
 .simp only[G8,aQ,hb];simp[eD]
 .exact(((((Kp.refl _ _).set (by simp) _ _).set (by simp) _ _).set (by simp) _ _).set (by simp) _ _)
 .simp[G8,iA]
theorem rD(iK:op.guard=none)(x:Operand)(ho:op.op=.load 67 x){b:Nat}{x0 x1 x2 x3 x4 x5 x6 x7 x8:aq}(hb:w.heap[b]?=some (CD x0 x1 x2 x3 x4 x5 x6 x7 x8))(hx:a.eval x=.pointer (some ⟨b,0,none⟩))(h:wpList aB ops Q rest (a.put op.dst (.agg #[x0,x1,x2,x3,x4,x5,x6,x7,x8])) w):wpList aB ops Q (op::rest) a w:=by
 obtain⟨⟨d0,d1,d2,d3,d4,d5,d6,d7,d8⟩,_⟩:=gC hb;refine wpList_load_mid iK 67 x ho b 0 hx [x0,x1,x2,x3,x4,x5,x6,x7,x8] _ ?_ Tryz.underlying67 rfl (by simp[Iw]) h;have hr:=World.rangeAt_of_block hb 0 9;simpa using hr
end
theorem ajx(p:Nat)(e1 e2:Bool)(f1 l1 f2 l2:Nat)(bs fs:List Nat)(vb vf:aq)(w:ay)(h:dN w p bs fs vb vf)(hn:(ae fs)<=200):aI aB 101 #[.pointer (some ⟨p,0,none⟩),dQ e1 f1 l1,dQ e2 f2 l2] w fun x w'=>x=.returned (dQ (e1 && e2) (if e1 then f1 ||| f2 else f1) (if e2 then l1 ||| l2 else l2))/\dN w' p bs (uM l1 f2 fs) vb vf/\Kp (foot p vb vf) w w':=by
 have aN:=h.lt;have k0:Kp (foot p vb vf) w (((w.alloc (cZ e1 f1 l1)).alloc (cZ e2 f2 l2)).alloc cJ):=(((Kp.refl _ _).alloc _).alloc _).alloc _;have P0:dN (((w.alloc (cZ e1 f1 l1)).alloc (cZ e2 f2 l2)).alloc cJ) p bs fs vb vf:=h.kp ((((Kp.refl [] _).alloc _).alloc _).alloc _) (by simp);have bA:(((w.alloc (cZ e1 f1 l1)).alloc (cZ e2 f2 l2)).alloc cJ).heap[w.heap.size]?=some (cZ e1 f1 l1):=by simp only[aC,aM];rw[az (by omega),az (by omega),if_true]
 have bB:(((w.alloc (cZ e1 f1 l1)).alloc (cZ e2 f2 l2)).alloc cJ).heap[w.heap.size+1]?=some (cZ e2 f2 l2):=by simp only[aC,aM];rw[az (by omega),if_true]
 have bZ:(((w.alloc (cZ e1 f1 l1)).alloc (cZ e2 f2 l2)).alloc cJ).heap[w.heap.size+1+1]?=some cJ:=by simp only[aC,aM];rw[if_true]
 obtain⟨K0,PP,BA,BB,BZ,U8⟩:=DF k0 P0 bA bB bZ aN;have nf:∀k,w.heap.size<=k->k∉foot p vb vf:=fun k hk hm=>by have:=U8.o k hm;omega
 have NF:=aj nf;clear h aN k0 P0 bA bB bZ nf;go_enter Tryz.func101,Tryz.ntmps101;go_wp2_with fail;refine(abU p l1 f2 bs fs vb vf _ (by exact PP.o) hn).mono ?_;rintro _ w1 ⟨rfl,P1,k1⟩;have V5:=k1.keep BA.o (NF.o _ (by omega));have qi:=k1.keep BB.o (NF.o _ (by omega));have bZ1:=k1.keep BZ.o (NF.o _ (by omega));have K1:=aj (K0.o.trans k1 (fun y hy=>.inl hy));have Dk:=aj P1;obtain⟨⟨a0,a1,a2,a3,a4,a5,a6,a7,a8⟩,_⟩:=gC V5;obtain⟨⟨b0,b1,b2,b3,b4,b5,b6,b7,b8⟩,_⟩:=gC qi;obtain⟨BA1,p8,Jq⟩:=cR V5 qi bZ1;have lZ1:=aE bZ1;have Iz:=aE qi;have lA1:=aE V5;clear V5 qi bZ1 k1 P1;cases e1<;>cases e2
 .go_upto_region 7 with fail;apply fD;refine rD rfl _ rfl (b:=w1.heap.size) (by rw[aC,aA rfl]) rfl ?_;refine rL rfl _ _ rfl (b:=w.heap.size+1+1) (by rw[aC,az (bY lZ1)];exact Jq.o) rfl rfl (by simp[dS]) ?_;intro w9 z9 k9 s9;go_wp2;refine cF (v:=dQ false f1 l2) (kN (b:=w.heap.size+1+1) aaG rfl z9) rfl ⟨rfl,?_,?_⟩
  .exact Dk.o.kp (((Kp.refl [w1.heap.size,w.heap.size+1+1] w1).alloc _).trans k9 (by simp)) (by intro k hk;simp at hk;rcases hk with rfl|rfl<;>exact NF.o _ (by omega))
  .exact((K1.o.alloc _).trans k9 (by simp;omega))
 .go_wp2_with fail;refine(AD l1 l2 _ _ (by simp only[aC,aM];rw[if_true])).mono ?_;rintro _ w2 ⟨rfl,h2⟩;have Jg:w2.heap[w1.heap.size]?=some (cZ false f1 l2):=bV h2 (by simp only[aC,aM];rw[az (by omega),if_true]);have z2:w2.heap[w.heap.size+1+1]?=some cJ:=bV h2 (by simp only[aC,aM];rw[az (by omega),az (by omega)];exact Jq.o);have k2:∀xs,Kp xs w1 w2:=fun xs=>(((Kp.refl _ _).alloc _).alloc _).below h2
  obtain⟨W2,Z2,K2⟩:=cR Jg z2 k2;clear Jg z2 k2 h2;go_upto_region 7 with(refine ahc (by rfl) _ _ (by rfl) (b:=w1.heap.size) (by exact W2.o) (by rfl) (by rfl) (by simp[dS]) ?_;intro w3 Jh k3 s3;have W3:=aj Jh;have K3:=aj k3;clear Jh k3)
  apply fD;refine rD rfl _ rfl (b:=w1.heap.size) W3.o rfl ?_;refine rL rfl _ _ rfl (b:=w.heap.size+1+1) (K3.o.keep Z2.o (by simp;omega)) rfl rfl (by simp[dS]) ?_;intro w9 z9 k9 s9;go_wp2;refine cF (v:=dQ false f1 (l1 ||| l2)) (kN (b:=w.heap.size+1+1) aaG rfl z9) rfl ⟨rfl,?_,?_⟩
  .exact Dk.o.kp (((K2.o [w1.heap.size,w.heap.size+1+1]).trans K3.o (by simp)).trans k9 (by simp)) (by intro k hk;simp at hk;rcases hk with rfl|rfl<;>exact NF.o _ (by omega))
  .exact(((K1.o.trans (K2.o []) (by simp)).trans K3.o (by simp;omega)).trans k9 (by simp;omega))
 .go_wp2_with fail;refine(AD f1 f2 _ _ (by simp only[aC,aM];rw[if_true])).mono ?_;rintro _ w2 ⟨rfl,h2⟩;have Jg:w2.heap[w1.heap.size]?=some (cZ false f1 l2):=bV h2 (by simp only[aC,aM];rw[az (by omega),if_true]);have zE:w2.heap[w.heap.size+1]?=some (cZ false f2 l2):=bV h2 (by simp only[aC,aM];rw[az (by omega),az (by omega)];exact p8.o);have z2:w2.heap[w.heap.size+1+1]?=some cJ:=bV h2 (by simp only[aC,aM];rw[az (by omega),az (by omega)];exact Jq.o);have k2:∀xs,Kp xs w1 w2:=fun xs=>(((Kp.refl _ _).alloc _).alloc _).below h2
  obtain⟨W2,Z2,B2,K2⟩:=dH Jg z2 zE k2;clear Jg z2 k2 h2 zE;go_upto_region 7 with(refine ahb (by rfl) _ _ (by rfl) (b:=w1.heap.size) (by exact W2.o) (by rfl) (by rfl) (by simp[dS]) ?_;intro w3 Jh k3 s3;obtain⟨⟨x0,_⟩,_⟩:=gC (k3.keep B2.o (by simp;omega));have W3:=aj Jh;have K3:=aj k3;clear Jh k3)
  apply fD;refine rD rfl _ rfl (b:=w1.heap.size) W3.o rfl ?_;refine rL rfl _ _ rfl (b:=w.heap.size+1+1) (K3.o.keep Z2.o (by simp;omega)) rfl rfl (by simp[dS]) ?_;intro w9 z9 k9 s9;go_wp2;refine cF (v:=dQ false (f1 ||| f2) l2) (kN (b:=w.heap.size+1+1) aaG rfl z9) rfl ⟨rfl,?_,?_⟩
  .exact Dk.o.kp (((K2.o [w1.heap.size,w.heap.size+1+1]).trans K3.o (by simp)).trans k9 (by simp)) (by intro k hk;simp at hk;rcases hk with rfl|rfl<;>exact NF.o _ (by omega))
  .exact(((K1.o.trans (K2.o []) (by simp)).trans K3.o (by simp;omega)).trans k9 (by simp;omega))
 .go_wp2_with fail;refine(AD f1 f2 _ _ (by simp only[aC,aM];rw[if_true])).mono ?_;rintro _ w2 ⟨rfl,h2⟩;have Jg:w2.heap[w1.heap.size]?=some (cZ true f1 l2):=bV h2 (by simp only[aC,aM];rw[az (by omega),if_true]);have Ds:w2.heap[w.heap.size]?=some (cZ true f1 l1):=bV h2 (by simp only[aC,aM];rw[az (by omega),az (by omega)];exact BA1.o);have zE:w2.heap[w.heap.size+1]?=some (cZ true f2 l2):=bV h2 (by simp only[aC,aM];rw[az (by omega),az (by omega)];exact p8.o);have z2:w2.heap[w.heap.size+1+1]?=some cJ:=bV h2 (by simp only[aC,aM];rw[az (by omega),az (by omega)];exact Jq.o);have k2:∀xs,Kp xs w1 w2:=fun xs=>(((Kp.refl _ _).alloc _).alloc _).below h2
  obtain⟨W2,Z2,A2,B2,K2⟩:=jd Jg z2 Ds zE k2;clear Jg z2 k2 h2 Ds zE a0 a1 a2 a3 a4 a5 a6 a7 a8 b0 b1 b2 b3 b4 b5 b6 b7 b8;go_upto_region 6 with(refine ahb (by rfl) _ _ (by rfl) (b:=w1.heap.size) (by exact W2.o) (by rfl) (by rfl) (by simp[dS]) ?_;intro w3 Jh k3 s3;obtain⟨⟨a0,a1,a2,a3,a4,a5,a6,a7,a8⟩,_⟩:=gC (k3.keep A2.o (by simp;omega));obtain⟨⟨b0,b1,b2,b3,b4,b5,b6,b7,b8⟩,_⟩:=gC (k3.keep B2.o (by simp;omega));have W3:=aj Jh;have K3:=aj k3;clear Jh k3)
  have Z3:=aj (K3.o.keep Z2.o (by simp;omega));have lw3:=aE W3.o;have lz3:=aE Z3.o;go_wp2_with fail;refine(AD l1 l2 _ _ (by rw[aC,aA s3.symm])).mono ?_;rintro _ w4 ⟨rfl,h4⟩;have W4:=aj (bV h4 (b:=w1.heap.size) (by rw[aC,az (bY lw3)];exact W3.o));have Z4:=aj (bV h4 (b:=w.heap.size+1+1) (by rw[aC,az (bY lz3)];exact Z3.o));have K4:ax (∀xs,Kp xs w3 w4):=fun xs=>((Kp.refl _ _).alloc _).below h4
  clear h4;go_upto_region 7 with(refine ahc (by rfl) _ _ (by rfl) (b:=w1.heap.size) (by exact W4.o) (by rfl) (by rfl) (by simp[dS]) ?_;intro w5 wh5 k5 s5;have W5:=aj wh5;have K5:=aj k5;clear wh5 k5)
  apply fD;refine rD rfl _ rfl (b:=w1.heap.size) W5.o rfl ?_;refine rL rfl _ _ rfl (b:=w.heap.size+1+1) (K5.o.keep Z4.o (by simp;omega)) rfl rfl (by simp[dS]) ?_;intro w9 z9 k9 s9;go_wp2;refine cF (v:=dQ true (f1 ||| f2) (l1 ||| l2)) (kN (b:=w.heap.size+1+1) aaG rfl z9) rfl ⟨rfl,?_,?_⟩
  .exact Dk.o.kp (((((K2.o [w1.heap.size,w.heap.size+1+1]).trans K3.o (by simp)).trans (K4.o []) (by simp)).trans K5.o (by simp)).trans k9 (by simp)) (by intro k hk;simp at hk;rcases hk with rfl|rfl<;>exact NF.o _ (by omega))
  .exact(((((K1.o.trans (K2.o []) (by simp)).trans K3.o (by simp;omega)).trans (K4.o []) (by simp)).trans K5.o (by simp;omega)).trans k9 (by simp;omega))
theorem anv(p:Nat)(e:Bool)(f l:Nat)(bs fs:List Nat)(vb vf:aq)(w:ay)(h:dN w p bs fs vb vf):aI aB 115 #[.pointer (some ⟨p,0,none⟩),dQ e f l,.int .u8 63] w fun x w'=>x=.returned (dQ true f l)/\dN w' p bs fs vb vf/\Kp (foot p vb vf) w w':=by
 have HP:=aj h;have nf:∀k,w.heap.size<=k->k∉foot p vb vf:=fun k hk hm=>by have:=HP.o.lt k hm;omega
 have NF:=aj nf;clear h nf;go_enter Tryz.func115,Tryz.ntmps115;go_upto_region 5 with fail;apply fD;refine rD rfl _ rfl (b:=w.heap.size) (x0:=.bool true) (x1:=.int .u64 (wd f 0)) (x2:=.int .u64 (wd f 1)) (x3:=.int .u64 (wd f 2)) (x4:=.int .u64 (wd f 3)) (x5:=.int .u64 (wd l 0)) (x6:=.int .u64 (wd l 1)) (x7:=.int .u64 (wd l 2)) (x8:=.int .u64 (wd l 3)) (by simp only[aC,aM];rw[az (by omega),if_true]) rfl ?_;refine rL rfl _ _ rfl (b:=w.heap.size+1) (x0:=.bool false) (x1:=.int .u64 0) (x2:=.int .u64 0) (x3:=.int .u64 0) (x4:=.int .u64 0) (x5:=.int .u64 0) (x6:=.int .u64 0) (x7:=.int .u64 0) (x8:=.int .u64 0) (by simp only[aC,aM];rw[if_true]) rfl rfl (by simp[dS]) ?_;intro w9 z9 k9 s9;go_wp2;refine cF (v:=dQ true f l) (kN (b:=w.heap.size+1) adv rfl z9) rfl ⟨rfl,?_,?_⟩
 .exact HP.o.kp ((((Kp.refl [w.heap.size+1] w).alloc _).alloc _).trans k9 (by simp)) (by intro k hk;simp at hk;subst hk;exact NF.o _ (by omega))
 .exact((((Kp.refl _ w).alloc _).alloc _).trans k9 (by simp))
theorem anw(p:Nat)(e:Bool)(f l:Nat)(bs fs:List Nat)(vb vf:aq)(w:ay)(h:dN w p bs fs vb vf)(hn:(ae fs)<=200):aI aB 115 #[.pointer (some ⟨p,0,none⟩),dQ e f l,.int .u8 43] w fun x w'=>x=.returned (dQ e f l)/\dN w' p bs (uM l f fs) vb vf/\Kp (foot p vb vf) w w':=by
 have HP:=aj h;have nf:∀k,w.heap.size<=k->k∉foot p vb vf:=fun k hk hm=>by have:=HP.o.lt k hm;omega
 have NF:=aj nf;have PP:ax (dN ((w.alloc (cZ e f l)).alloc cJ) p bs fs vb vf):=HP.o.kp (((Kp.refl [] _).alloc _).alloc _) (by simp);have BA:ax (((w.alloc (cZ e f l)).alloc cJ).heap[w.heap.size]?=some (cZ e f l)):=by show _=_;simp only[aC,aM];rw[az (by omega),if_true]
 have BZ:ax (((w.alloc (cZ e f l)).alloc cJ).heap[w.heap.size+1]?=some cJ):=by show _=_;simp only[aC,aM];rw[if_true]
 clear h nf;go_enter Tryz.func115,Tryz.ntmps115;go_wp2_with fail;refine(abU p l f bs fs vb vf _ (by exact PP.o) hn).mono ?_;rintro _ w1 ⟨rfl,P1,k1⟩;have Dk:=aj P1;have A1:=aj (k1.keep BA.o (NF.o _ (by omega)));have Z1:=aj (k1.keep BZ.o (NF.o _ (by omega)));have K1:=aj ((((Kp.refl (foot p vb vf) w).alloc (cZ e f l)).alloc cJ).trans k1 (fun y hy=>.inl hy));clear P1 k1;go_upto_region 5 with fail;apply fD;refine rD rfl _ rfl (b:=w.heap.size) A1.o rfl ?_;refine rL rfl _ _ rfl (b:=w.heap.size+1) Z1.o rfl rfl (by simp[dS]) ?_;intro w9 z9 k9 s9;go_wp2;refine cF (v:=dQ e f l) (kN (b:=w.heap.size+1) adv rfl z9) rfl ⟨rfl,?_,?_⟩
 .exact Dk.o.kp k9 (by intro k hk;simp at hk;subst hk;exact NF.o _ (by omega))
 .exact K1.o.trans k9 (by simp)
theorem anx(p:Nat)(e:Bool)(f l:Nat)(bs fs:List Nat)(vb vf:aq)(w:ay)(h:dN w p bs fs vb vf)(hn:(ae fs)<=200):aI aB 115 #[.pointer (some ⟨p,0,none⟩),dQ e f l,.int .u8 42] w fun x w'=>x=.returned (dQ true f l)/\dN w' p bs (uM l f fs) vb vf/\Kp (foot p vb vf) w w':=by
 have HP:=aj h;have nf:∀k,w.heap.size<=k->k∉foot p vb vf:=fun k hk hm=>by have:=HP.o.lt k hm;omega
 have NF:=aj nf;have PP:ax (dN ((w.alloc (cZ e f l)).alloc cJ) p bs fs vb vf):=HP.o.kp (((Kp.refl [] _).alloc _).alloc _) (by simp);have BA:ax (((w.alloc (cZ e f l)).alloc cJ).heap[w.heap.size]?=some (cZ e f l)):=by show _=_;simp only[aC,aM];rw[az (by omega),if_true]
 have BZ:ax (((w.alloc (cZ e f l)).alloc cJ).heap[w.heap.size+1]?=some cJ):=by show _=_;simp only[aC,aM];rw[if_true]
 clear h nf;go_enter Tryz.func115,Tryz.ntmps115;go_wp2_with fail;refine(abU p l f bs fs vb vf _ (by exact PP.o) hn).mono ?_;rintro _ w1 ⟨rfl,P1,k1⟩;have Dk:=aj P1;have a1:=k1.keep BA.o (NF.o _ (by omega));have A1:=aj a1;have Z1:=aj (k1.keep BZ.o (NF.o _ (by omega)));have K1:=aj ((((Kp.refl (foot p vb vf) w).alloc (cZ e f l)).alloc cJ).trans k1 (fun y hy=>.inl hy));obtain⟨⟨c0,_⟩,f0,_⟩:=gC a1;clear P1 k1 a1;go_upto_region 5 with fail;apply fD;refine rD rfl _ rfl (b:=w.heap.size) (x0:=.bool true) (x1:=.int .u64 (wd f 0)) (x2:=.int .u64 (wd f 1)) (x3:=.int .u64 (wd f 2)) (x4:=.int .u64 (wd f 3)) (x5:=.int .u64 (wd l 0)) (x6:=.int .u64 (wd l 1)) (x7:=.int .u64 (wd l 2)) (x8:=.int .u64 (wd l 3)) (by rw[aQ,aA rfl,A1.o];rfl) rfl ?_;refine rL rfl _ _ rfl (b:=w.heap.size+1) (x0:=.bool false) (x1:=.int .u64 0) (x2:=.int .u64 0) (x3:=.int .u64 0) (x4:=.int .u64 0) (x5:=.int .u64 0) (x6:=.int .u64 0) (x7:=.int .u64 0) (x8:=.int .u64 0) (by rw[aQ,az (by omega)];exact Z1.o) rfl rfl (by simp[dS]) ?_;intro w9 z9 k9 s9;go_wp2;refine cF (v:=dQ true f l) (kN (b:=w.heap.size+1) adv rfl z9) rfl ⟨rfl,?_,?_⟩
 .exact Dk.o.kp (((Kp.refl [w.heap.size,w.heap.size+1] w1).set (by simp) _ _).trans k9 (by simp)) (by intro k hk;simp at hk;rcases hk with rfl|rfl<;>exact NF.o _ (by omega))
 .exact(K1.o.set (.inr (aH _)) _ _).trans k9 (by simp)
theorem alQ(e st:Nat)(fs:List Nat):∀k q,k<=ae fs->(uN e st k fs).getD q 0=if q<k then lk e st q (fs.getD q 0) else fs.getD q 0:=by
 intro k;induction k with
 |zero=>intro q _;simp[uN]
 |succ k ih =>
  intro q hk;have hl:=XS e st fs k;rw[uN];by_cases hq:q=k
  .subst hq;rw[aO,List.getElem?_set_self (by omega),aA (by omega),Option.getD_some,ih q (by omega),az (by omega)]
  .rw[aO,List.getElem?_set_ne (fun h=>hq h.symm),<-aO,ih q (by omega)];by_cases h2:q<k
   .rw[aA h2,aA (by omega)]
   .rw[az h2,az (by omega)]
theorem abS(e st:Nat)(fs:List Nat):(uM e st fs).length=ae fs:=XS e st fs _
theorem afM(e st:Nat)(fs:List Nat)(q:Nat)(hq:q<ae fs):(uM e st fs).getD q 0=gW (fun q=>fs.getD q 0) e st q:=by
 rw[uM,alQ e st fs _ q (aH _),aA hq];rfl
theorem abT(e st:Nat)(fs:List Nat)(lo hi:Nat)(h:In lo hi e):(uM e st fs).take lo=fs.take lo:=by
 apply List.ext_getElem?;intro q;rw[Eu,Eu];by_cases hq:q<lo
 .rw[aA hq,aA hq];by_cases hl:q<ae fs
  .have g:=afM e st fs q hl;have n:=IZ h (q:=q) (.inl hq);rw[gW,n]at g;simp only[acV,if_false]at g;rw[aO,aO,bD hl,bD (by rw[abS];exact hl)]at g;simp only[Option.getD_some]at g;rw[bD hl,bD (by rw[abS];exact hl),g]
  .rw[iY (by rw[abS];omega),iY (by omega)]
 .rw[az hq,az hq]
theorem gI.linked{B:Nat->Nat}{fs:List Nat}{lo hi a b:Nat}{e:Bool}{f l:Nat}{L:aD}(h:gI B (gW (fun q=>fs.getD q 0) a b) lo hi e f l L)(hl:hi<=ae fs):gI B (fun q=>(uM a b fs).getD q 0) lo hi e f l L:=h.congr (fun _ _=>rfl) (fun q _ h2=>afM a b fs q (by omega))
structure St(w:ay)(s:ByteArray)(i:Nat)(e pl:Int)(p r:Nat)(bs fs:List Nat)(vb vf:aq):Prop where
 rd:w.heap[r]?=some (dF s i e pl p)
 ps:dN w p bs fs vb vf
 ap:r∉foot p vb vf
def qO(R:PR aD)(s:ByteArray)(i p r:Nat)(bs fs:List Nat)(vb vf:aq)(w:ay)(x:Ending)(w':ay):Prop :=
 ∃(e:Bool) (f l:Nat) (bs' fs':List Nat) (eg dP:aq),x=.returned (dQ e f l)/\St w' s R.j R.err R.pl p r bs' fs' eg dP/\Kp (r::foot p vb vf) w w'/\(∀g∈foot p eg dP,g∈foot p vb vf\/w.heap.size<=g) /\
  (ae bs')<=ae bs+(R.j-i) /\
  (R.err=0->ae bs<=ae bs'/\bs'.take (ae bs)=bs/\fs'.take (ae bs)=fs/\gI (fun q=>bs'.getD q 0) (fun q=>fs'.getD q 0) (ae bs) (ae bs') e f l R.v)
theorem Yf(bs fs:List Nat)(v:Nat)(hl:(ae fs)=ae bs):gI (fun q=>(bs ++ [v]).getD q 0) (fun q=>(fs ++ [0]).getD q 0) (ae bs) (bs ++ [v]).length false (1 <<< (ae bs)) (1 <<< (ae bs)) (aD.set v):=by
 have h:=gI.single (fun q=>(bs ++ [v]).getD q 0) (fun q=>(fs ++ [0]).getD q 0) (ae bs) (by simp[<-hl]);simpa using h
theorem aiP(s:ByteArray)(i p r:Nat)(bs fs:List Nat)(vb vf:aq)(w:ay)(h:St w s i 0 0 p r bs fs vb vf)(hi:i<s.size)(hs:s.size<=16)(hn:(ae bs)<200)(h1:gt s i≠40)(h2:gt s i≠91)(h3:gt s i≠46)(h4:gt s i≠92)(h5:gt s i≠41)(h6:gt s i≠93)(h7:gt s i≠124)(h8:gt s i≠42)(h9:gt s i≠43)(Se:gt s i≠63):aI aB 114 #[.pointer (some ⟨r,0,none⟩)] w (qO (good (i+1) (aD.set (1 <<< gt s i))) s i p r bs fs vb vf w):=by
 have q1:((gt s i:Int) == 40)=false:=by simp;omega
 have q2:((gt s i:Int) == 91)=false:=by simp;omega
 have q3:((gt s i:Int) == 46)=false:=by simp;omega
 have q4:((gt s i:Int) == 92)=false:=by simp;omega
 have q5:((gt s i:Int) == 41)=false:=by simp;omega
 have q6:((gt s i:Int) == 93)=false:=by simp;omega
 have q7:((gt s i:Int) == 124)=false:=by simp;omega
 have q8:((gt s i:Int) == 42)=false:=by simp;omega
 have q9:((gt s i:Int) == 43)=false:=by simp;omega
 have q10:((gt s i:Int) == 63)=false:=by simp;omega
 have HS:=aj h;have hr:=aE h.rd;have gF:r≠w.heap.size:=(by omega);have qC:(w.alloc cJ).heap[r]?=some (dF s i 0 0 p):=by rw[aC,az gF];exact h.rd
 have c1:w.cell? ⟨r,1,none⟩=some (.int .i64 i):=by rw[aF h.rd];rfl
 have pP:=aj qC;have Z0:ax ((w.alloc cJ).heap[w.heap.size]?=some cJ):=by show _=_;rw[aC,aA rfl]
 have nf:∀k,w.heap.size<=k->k∉foot p vb vf:=fun k hk hm=>by have:=HS.o.ps.lt k hm;omega
 have NF:=aj nf;clear h qC nf h1 h2 h3 h4 h5 h6 h7 h8 h9 Se;go_enter Tryz.func114,Tryz.ntmps114;go_wp2_with fail;refine(xK s i p r 0 0 _ (by exact pP.o) hi hs).mono ?_;rintro _ w1 ⟨rfl,lJ,k1⟩;have Bj:=aj lJ;have c2:w1.cell? ⟨r,2,none⟩=some (.pointer (some ⟨p,0,none⟩)):=by rw[aF lJ];rfl
 have Z1:=aj (k1.keep Z0.o (by simp;omega));have P1:ax (dN w1 p bs fs vb vf):=HS.o.ps.kp (((Kp.refl [r] w).alloc _).trans k1 (by simp)) (by intro k hk;simp at hk;subst hk;exact HS.o.ap);have K1:=aj (((Kp.refl (r::foot p vb vf) w).alloc cJ).trans k1 (by simp));have Cz:=aE lJ;clear lJ k1;go_upto_region 4 with fail;have sD:∀w':ay,w'.heap[r]?=some (dF s (i+1) 0 0 p)->w'.cell? ⟨r,2,none⟩=some (.pointer (some ⟨p,0,none⟩)):=fun w' h'=>by rw[aF h'];rfl
 have tE:w1.drew.heap[r]?=some (dF s (i+1) 0 0 p):=Bj.o;have EW:ax (w1.drew.heap[w.heap.size]?=some cJ):=Z1.o;have EB:ax (dN w1.drew p bs fs vb vf):=P1.o.kp ((Kp.refl [] w1).drew) (by simp);have En:=aj K1.o.drew;clear c2;go_region_held3 (fun w':ay=>w'.heap[r]?=some (dF s (i+1) 0 0 p))
  (first|with_reducible exact R3|with_reducible exact R2|with_reducible exact tE|(simp only[aQ,az gF];with_reducible exact R3))
  (first|(go_at_call 53;refine(L0 (gt s i) _ (kj s i)).mono ?_;rintro _ w2 ⟨rfl,b2⟩;have R2:=bV b2 tE;have Z2:=aj (bV b2 EW.o);have P2:=aj (EB.o.kp ((Kp.refl [] _).below b2) (by simp));have K2:=aj (En.o.below b2);clear b2)|(go_at_call 119;refine(Q9 p (1 <<< gt s i) bs fs vb vf _ (by exact P2.o) hn).mono ?_;rintro _ w3 ⟨rfl,eg,dP,P3,k3,gA⟩;have R3:=k3.keep R2 HS.o.ap;have z3:=k3.keep Z2.o (NF.o _ (aH _));obtain⟨⟨oy,oz,oB,oC,sR,sS,sU,sV,sX⟩,pF,pG,pH,pI,uU,uV,uW,uX,uY⟩:=gC z3;have Z3:=aj z3;have QH:=aj P3;have K3:=aj (K2.o.trans k3 (fun y hy=>.inl (by simp[hy])));have FR:=aj gA;have l2:=aE Z2.o;have l3:=aE z3;have oH:ax (∀g∈foot p eg dP,g∈foot p vb vf\/w.heap.size<=g):=(fun g hg=>by rcases gA g hg with e|e;exact .inl e;right;omega);clear z3 P3 gA))
 go_wp2;refine cF (v:=dQ false (1 <<< (ae bs)) (1 <<< (ae bs))) (kN (b:=w.heap.size) G5 rfl (by simp only[aQ,Z3.o];simp[eD])) rfl ?_;refine⟨false,1 <<< (ae bs),1 <<< (ae bs),bs ++ [1 <<< gt s i],fs ++ [0],eg,dP,rfl,⟨?_,?_,?_⟩,?_,oH.o,?_,fun _=>⟨?_,?_,?_,?_⟩⟩
 .simp only[aQ,az gF];exact R3
 .exact QH.o.kp ((Kp.refl [w.heap.size] w3).mQ (by simp) _ _ _ _ _ _ _ _ _) (by intro k hk;simp at hk;subst hk;exact fun hm=>by rcases FR.o _ hm with e|e;exact NF.o _ (aH _) e;omega)
 .intro hm;rcases oH.o _ hm with e|e
  .exact HS.o.ap e
  .omega
 .exact K3.o.mQ (.inr (aH _)) _ _ _ _ _ _ _ _ _
 .simp[good]
 .simp
 .simp
 .rw[<-HS.o.ps.len];simp
 .exact Yf bs fs (1 <<< gt s i) HS.o.ps.len
theorem agr(s:ByteArray)(hz:Nz s):∀(n acc i:Nat),((gg s n acc i).err=0/\(gg s n acc i).pl=0/\i<(gg s n acc i).j/\(gg s n acc i).j<=s.size)\/((gg s n acc i).err≠0/\(gg s n acc i).j=s.size):=by
 intro n;induction n with
 |zero=>intro acc i;right;simp[gg,de]
 |succ n ih =>
  intro acc i;have hA:=L9 s i hz;rw[CE];generalize dz s i=A at *;rcases hA with⟨a1,a2,a3,a4,a5⟩|⟨a1,a2⟩
  .rw[az (by simp[a1]),jx];have h0:=hz A.j;by_cases g0:gt s A.j=0
   .rw[aA g0];right;simp[de]
   .rw[az g0];by_cases g1:gt s A.j=93
    .rw[aA g1];left;exact⟨rfl,rfl,by simp only[good];omega,by simp only[good];omega⟩
    .rw[az g1];rcases ih (acc ||| A.v) A.j with h | h
     .left;exact⟨h.1,h.2.1,by omega,h.2.2.2⟩
     .right;exact h
  .rw[aA a1];right;exact⟨a1,a2⟩
theorem Ur(s:ByteArray)(i:Nat)(hz:Nz s):((gG s i).err=0/\(gG s i).pl=0/\i<(gG s i).j/\(gG s i).j<=s.size)\/((gG s i).err≠0/\(gG s i).j=s.size):=by
 by_cases hg:gt s i=94
 .rw[gG,aA hg];have h:=agr s hz 20 0 (i+1);show(((if (gg s 20 0 (i+1)).err≠0 then gg s 20 0 (i+1) else good (gg s 20 0 (i+1)).j (kZ (gg s 20 0 (i+1)).v)):PR Nat).err=0/\((if (gg s 20 0 (i+1)).err≠0 then gg s 20 0 (i+1) else good (gg s 20 0 (i+1)).j (kZ (gg s 20 0 (i+1)).v)):PR Nat).pl=0/\i<((if (gg s 20 0 (i+1)).err≠0 then gg s 20 0 (i+1) else good (gg s 20 0 (i+1)).j (kZ (gg s 20 0 (i+1)).v)):PR Nat).j/\((if (gg s 20 0 (i+1)).err≠0 then gg s 20 0 (i+1) else good (gg s 20 0 (i+1)).j (kZ (gg s 20 0 (i+1)).v)):PR Nat).j<=s.size)\/_;generalize gg s 20 0 (i+1)=A at *;rcases h with h|h
  .rw[az (by simp[h.1])];left;exact⟨rfl,rfl,by simp[good];omega,by simp[good];exact h.2.2.2⟩
  .rw[aA h.1];right;exact h
 .rw[gG,az hg];exact agr s hz 20 0 i
theorem aiU(s:ByteArray)(i p r:Nat)(bs fs:List Nat)(vb vf:aq)(w:ay)(h:St w s i 0 0 p r bs fs vb vf)(hi:i<s.size)(hs:s.size<=16)(hn:(ae bs)<200)(R:PR aD)(hR:R.j=(gG s (i+1)).j/\R.err=(gG s (i+1)).err/\R.pl=(gG s (i+1)).pl/\(R.err=0->R.v=aD.set (gG s (i+1)).v))(hc:gt s i=91)(hz:Nz s):aI aB 114 #[.pointer (some ⟨r,0,none⟩)] w (qO R s i p r bs fs vb vf w):=by
 have q1:((gt s i:Int) == 40)=false:=by simp;omega
 have q2:((gt s i:Int) == 91)=true:=by simp;omega
 obtain⟨HZ,HR,HS⟩:=cR hz hR h;have hr:=aE h.rd;have gF:r≠w.heap.size:=(by omega);have qC:(w.alloc cJ).heap[r]?=some (dF s i 0 0 p):=by rw[aC,az gF];exact h.rd
 have c1:w.cell? ⟨r,1,none⟩=some (.int .i64 i):=by rw[aF h.rd];rfl
 have pP:=aj qC;have Z0:ax ((w.alloc cJ).heap[w.heap.size]?=some cJ):=by show _=_;rw[aC,aA rfl]
 have nf:∀k,w.heap.size<=k->k∉foot p vb vf:=fun k hk hm=>by have:=HS.o.ps.lt k hm;omega
 have NF:=aj nf;clear h qC nf hc hz hR;go_enter Tryz.func114,Tryz.ntmps114;go_wp2_with fail;refine(xK s i p r 0 0 _ (by exact pP.o) hi hs).mono ?_;rintro _ w1 ⟨rfl,lJ,k1⟩;have Bj:=aj lJ;have c2:w1.cell? ⟨r,2,none⟩=some (.pointer (some ⟨p,0,none⟩)):=by rw[aF lJ];rfl
 have Z1:=aj (k1.keep Z0.o (by simp;omega));have P1:ax (dN w1 p bs fs vb vf):=HS.o.ps.kp (((Kp.refl [r] w).alloc _).trans k1 (by simp)) (by intro k hk;simp at hk;subst hk;exact HS.o.ap);have K1:=aj (((Kp.refl (r::foot p vb vf) w).alloc cJ).trans k1 (by simp));have Cz:=aE lJ;clear lJ k1;go_upto_region 10 with fail;have tE:w1.drew.heap[r]?=some (dF s (i+1) 0 0 p):=Bj.o;have Py:w1.drew.cell? ⟨r,2,none⟩=some (.pointer (some ⟨p,0,none⟩)):=by rw[aF tE];rfl
 have EW:ax (w1.drew.heap[w.heap.size]?=some cJ):=Z1.o;have EB:ax (dN w1.drew p bs fs vb vf):=P1.o.kp ((Kp.refl [] w1).drew) (by simp);have En:=aj K1.o.drew;have QK:=aj tE;have So:w.heap.size ∉ [r]:=by simp;omega
 clear c2 tE;go_region_held3 (fun w':ay=>w'.cell? ⟨r,2,none⟩=some (.pointer (some ⟨p,0,none⟩)))
  (first|with_reducible exact C4|with_reducible exact C3|with_reducible exact C2|with_reducible exact Py|(rw[aF (R5 _ _ _ _ _ _ _ _ _)];rfl))
  (first|(go_at_call 120;refine(aof s (i+1) p r _ (by exact QK.o) HZ.o hi hs).mono ?_;rintro _ w2 ⟨⟨v,rfl,hv⟩,jn,k2⟩;have HV:=aj hv;have C2:w2.cell? ⟨r,2,none⟩=some (.pointer (some ⟨p,0,none⟩)):=(by rw[aF jn];rfl);have R2:=aj jn;have Z2:=aj (k2.keep EW.o So);have P2:=aj (EB.o.kp k2 (by intro k hk;simp at hk;subst hk;exact HS.o.ap));have K2:=aj (En.o.trans k2 (by simp));clear jn k2 hv)|(go_at_call 119;refine(Q9 p v bs fs vb vf _ (by exact P2.o) hn).mono ?_;rintro _ w4 ⟨rfl,eg,dP,P4,k4,sx⟩;have R4:=k4.keep R2.o HS.o.ap;have C4:w4.cell? ⟨r,2,none⟩=some (.pointer (some ⟨p,0,none⟩)):=(by rw[aF R4];rfl);have z4:=k4.keep Z2.o (NF.o _ (aH _));obtain⟨⟨oy,oz,oB,oC,sR,sS,sU,sV,sX⟩,pF,pG,pH,pI,uU,uV,uW,uX,uY⟩:=gC z4;have R5:∀v0 v1 v2 v3 v4 v5 v6 v7 v8:aq,(((((((((w4.setCell ⟨w.heap.size,0,none⟩ v0).setCell ⟨w.heap.size,1,none⟩ v1).setCell ⟨w.heap.size,2,none⟩ v2).setCell ⟨w.heap.size,3,none⟩ v3).setCell ⟨w.heap.size,4,none⟩ v4).setCell ⟨w.heap.size,5,none⟩ v5).setCell ⟨w.heap.size,6,none⟩ v6).setCell ⟨w.heap.size,7,none⟩ v7).setCell ⟨w.heap.size,8,none⟩ v8).heap[r]?=some (dF s (gG s (i+1)).j (gG s (i+1)).err (gG s (i+1)).pl p):=(fun _ _ _ _ _ _ _ _ _=>by simp only[aQ,az gF];exact R4);have Z4:=aj z4;have vx:=aj P4;have K4:=aj (K2.o.trans k4 (fun y hy=>.inl (by simp[hy])));have FR:=aj sx;have l3:=aE Z2.o;have oH:ax (∀g∈foot p eg dP,g∈foot p vb vf\/w.heap.size<=g):=(fun g hg=>by rcases sx g hg with e|e;exact .inl e;right;omega);clear z4 P4 sx R4))
 go_wp2;refine cF (v:=dQ false (1 <<< (ae bs)) (1 <<< (ae bs))) (kN (b:=w.heap.size) G5 rfl (by simp only[aQ,Z4.o];simp[eD])) rfl ?_;refine⟨false,1 <<< (ae bs),1 <<< (ae bs),bs ++ [v],fs ++ [0],eg,dP,rfl,⟨?_,?_,?_⟩,?_,oH.o,?_,fun hh=>⟨?_,?_,?_,?_⟩⟩
 .rw[HR.o.1,HR.o.2.1,HR.o.2.2.1];exact R5 _ _ _ _ _ _ _ _ _
 .exact vx.o.kp ((Kp.refl [w.heap.size] w4).mQ (by simp) _ _ _ _ _ _ _ _ _) (by intro k hk;simp at hk;subst hk;exact fun hm=>by rcases FR.o _ hm with e|e;exact NF.o _ (aH _) e;omega)
 .intro hm;rcases oH.o _ hm with e|e
  .exact HS.o.ap e
  .omega
 .exact K4.o.mQ (.inr (aH _)) _ _ _ _ _ _ _ _ _
 .have hh:=Ur s (i+1) HZ.o;rw[HR.o.1];simp only[List.length_append,List.length_cons,List.length_nil];rcases hh with hh|hh<;>omega
 .simp
 .simp
 .rw[<-HS.o.ps.len];simp
 .have e:=HV.o (by rw[<-HR.o.2.1];exact hh);rw[HR.o.2.2.2 hh,<-e];exact Yf bs fs v HS.o.ps.len
def QS(s:ByteArray)(i:Nat)(strict:Prop)(R:PR aD):Prop:=(R.err=0/\R.pl=0/\i<=R.j/\(strict->i<R.j)/\R.j<=s.size)\/(R.err≠0/\R.j=s.size)
theorem OU(s:ByteArray)(n:Nat)(acc:aD)(i:Nat):pp s (n+1) 0 acc i=if gt s i=124 then(if (pp s n 1 aD.aX (i+1)).err≠0 then pp s n 1 aD.aX (i+1) else pp s n 0 (aD.alt acc (pp s n 1 aD.aX (i+1)).v) (pp s n 1 aD.aX (i+1)).j) else good i acc:=rfl
theorem OV(s:ByteArray)(n:Nat)(acc:aD)(i:Nat):pp s (n+1) 1 acc i=if gt s i=0\/gt s i=124\/gt s i=41 then good i acc else(if (pp s n 2 aD.aX i).err≠0 then pp s n 2 aD.aX i else pp s n 1 (aD.cat acc (iQ s 20 (pp s n 2 aD.aX i).v (pp s n 2 aD.aX i).j).v) (iQ s 20 (pp s n 2 aD.aX i).v (pp s n 2 aD.aX i).j).j):=rfl
theorem DY(s:ByteArray)(n:Nat)(acc:aD)(i:Nat):pp s (n+1) 2 acc i=if gt s i=40 then(if (pp s n 1 aD.aX (i+1)).err≠0 then pp s n 1 aD.aX (i+1) else(if (pp s n 0 (pp s n 1 aD.aX (i+1)).v (pp s n 1 aD.aX (i+1)).j).err≠0 then pp s n 0 (pp s n 1 aD.aX (i+1)).v (pp s n 1 aD.aX (i+1)).j else if gt s (pp s n 0 (pp s n 1 aD.aX (i+1)).v (pp s n 1 aD.aX (i+1)).j).j=0 then de s 4 s.size acc else good ((pp s n 0 (pp s n 1 aD.aX (i+1)).v (pp s n 1 aD.aX (i+1)).j).j+1) (pp s n 0 (pp s n 1 aD.aX (i+1)).v (pp s n 1 aD.aX (i+1)).j).v)) else if gt s i=91 then(if (gG s (i+1)).err≠0 then⟨(gG s (i+1)).err,(gG s (i+1)).pl,(gG s (i+1)).j,acc⟩ else good (gG s (i+1)).j (aD.set (gG s (i+1)).v)) else if gt s i=46 then good (i+1) (aD.set (kZ (1 <<< 10))) else if gt s i=92 then(if gt s (i+1)=0 then de s 4 s.size acc else good (i+2) (aD.set (1 <<< gt s (i+1)))) else if gt s i=42\/gt s i=43\/gt s i=63\/gt s i=93 then de s 5 i acc else good (i+1) (aD.set (1 <<< gt s i)):=rfl
theorem Ao(s:ByteArray)(hz:Nz s):∀n,(∀acc i,i<=s.size->QS s i False (pp s n 0 acc i))/\(∀acc i,i<=s.size->QS s i False (pp s n 1 acc i))/\(∀acc i,i<s.size->QS s i True (pp s n 2 acc i)):=by
 intro n;induction n with
 |zero=>exact⟨fun _ _ _=>.inr ⟨by simp[pp,de],rfl⟩,fun _ _ _=>.inr ⟨by simp[pp,de],rfl⟩,fun _ _ _=>.inr ⟨by simp[pp,de],rfl⟩⟩
 |succ n ih =>
  obtain⟨XG,ih1,ih2⟩:=ih;refine⟨fun acc i hi=>?_,fun acc i hi=>?_,fun acc i hi=>?_⟩
  .rw[OU];have h0:=hz i;by_cases hg:gt s i=124
   .rw[aA hg];have hA:=ih1 aD.aX (i+1) (by omega);generalize pp s n 1 aD.aX (i+1)=A at *;rcases hA with⟨a1,a2,a3,_,a5⟩|⟨a1,a2⟩
    .rw[az (by simp[a1])];rcases XG (aD.alt acc A.v) A.j a5 with⟨b1,b2,b3,_,b5⟩|b
     .exact .inl ⟨b1,b2,by omega,fun h=>h.elim,b5⟩
     .exact .inr b
    .rw[aA a1];exact .inr ⟨a1,a2⟩
   .rw[az hg];exact .inl ⟨rfl,rfl,aH _,fun h=>h.elim,hi⟩
  .rw[OV];have h0:=hz i;by_cases hg:gt s i=0\/gt s i=124\/gt s i=41
   .rw[aA hg];exact .inl ⟨rfl,rfl,aH _,fun h=>h.elim,hi⟩
   .rw[az hg];have hA:=ih2 aD.aX i (by omega);generalize pp s n 2 aD.aX i=A at *;rcases hA with⟨a1,a2,a3,_,a5⟩|⟨a1,a2⟩
    .rw[az (by simp[a1])];have hB:=Uq s hz 20 A.v A.j a5;generalize iQ s 20 A.v A.j=B at *;rcases ih1 (aD.cat acc B.v) B.j hB.2.2.2 with⟨b1,b2,b3,_,b5⟩|b
     .exact .inl ⟨b1,b2,by omega,fun h=>h.elim,b5⟩
     .exact .inr b
    .rw[aA a1];exact .inr ⟨a1,a2⟩
  .rw[DY];have h0:=hz i;have h1:=hz (i+1);by_cases g1:gt s i=40
   .rw[aA g1];have hA:=ih1 aD.aX (i+1) (by omega);generalize pp s n 1 aD.aX (i+1)=A at *;rcases hA with⟨a1,a2,a3,_,a5⟩|⟨a1,a2⟩
    .rw[az (by simp[a1])];have hB:=XG A.v A.j a5;generalize pp s n 0 A.v A.j=B at *;rcases hB with⟨b1,b2,b3,_,b5⟩|⟨b1,b2⟩
     .rw[az (by simp[b1])];have h2:=hz B.j;by_cases g2:gt s B.j=0
      .rw[aA g2];exact .inr ⟨by simp[de],rfl⟩
      .rw[az g2];exact .inl ⟨rfl,rfl,by simp only[good];omega,fun _=>by simp only[good];omega,by simp only[good];omega⟩
     .rw[aA b1];exact .inr ⟨b1,b2⟩
    .rw[aA a1];exact .inr ⟨a1,a2⟩
   .rw[az g1];by_cases g2:gt s i=91
    .rw[aA g2];have hA:=Ur s (i+1) hz;generalize gG s (i+1)=A at *;rcases hA with⟨a1,a2,a3,a4⟩|⟨a1,a2⟩
     .rw[az (by simp[a1])];exact .inl ⟨rfl,rfl,by simp only[good];omega,fun _=>by simp only[good];omega,a4⟩
     .rw[aA a1];exact .inr ⟨a1,a2⟩
    .rw[az g2];by_cases g3:gt s i=46
     .rw[aA g3];exact .inl ⟨rfl,rfl,by simp only[good];omega,fun _=>by simp only[good];omega,by simp only[good];omega⟩
     .rw[az g3];by_cases g4:gt s i=92
      .rw[aA g4];by_cases g5:gt s (i+1)=0
       .rw[aA g5];exact .inr ⟨by simp[de],rfl⟩
       .rw[az g5];exact .inl ⟨rfl,rfl,by simp only[good];omega,fun _=>by simp only[good];omega,by simp only[good];omega⟩
      .rw[az g4];by_cases g5:gt s i=42\/gt s i=43\/gt s i=63\/gt s i=93
       .rw[aA g5];exact .inr ⟨by simp[de],rfl⟩
       .rw[az g5];exact .inl ⟨rfl,rfl,by simp only[good];omega,fun _=>by simp only[good];omega,by simp only[good];omega⟩
end Go.Proofs.YtbjdkbcfpmeneaaGreat
