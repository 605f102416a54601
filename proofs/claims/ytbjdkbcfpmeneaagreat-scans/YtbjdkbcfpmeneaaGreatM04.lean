/- What is proved here: the reader's methods atom, rep, cat and alt do what the document's reading says, at every place of a text of up to 16 bytes, none of them 0; if either does what it should. -/
import Derived.Test.YtbjdkbcfpmeneaaGreatM02
open ByteArray renaming mk->uzz
open Go renaming Calls->aI,Value->aq,World->ay,bodyPost_ret->cF,undef->eT,wp_region_lit->fD
open Go.Calls renaming mono->MC
open Go.Lib renaming indexByte->oL
open Go.Proofs.Tryz renaming prog->aB,results102->adu,results114->G5,results47->adx,results74->ady
open Go.Value renaming oneCell'->dS
open List renaming getD_eq_getElem?_getD->aO,getElem?_take->Eu,length->ae,mem_cons->gH
open Nat renaming le_refl->aH,ne_of_lt->bY
namespace Go.Proofs.YtbjdkbcfpmeneaaGreat
set_option linter.unusedVariables false
set_option linter.unusedSimpArgs false
set_option maxRecDepth 100000
set_option maxHeartbeats 16000000
open Go.RowKit
theorem Yz(c:Nat)(hc:c<256):decide (0<=oL (uzz #[42,43,63]).data.toList c.toUInt8)=decide (c=42\/c=43\/c=63):=by
 have h:∀c:Fin 256,decide (0<=oL (uzz #[42,43,63]).data.toList c.1.toUInt8)=decide (c.1=42\/c.1=43\/c.1=63):=(by decide +kernel)
 exact h ⟨c,hc⟩
theorem ab0(s:ByteArray)(i p r:Nat)(e pl c:Int)(w:ay)(h:w.heap[r]?=some (dF s i e pl p))(hi:i<s.size)(hs:s.size<=16)(hc:(gt s i:Int)=c):aI aB 116 #[.pointer (some ⟨r,0,none⟩)] w fun x w'=>x=.returned (.int .u8 c)/\w'.heap[r]?=some (dF s (i+1) e pl p)/\Kp [r] w w':=by
 rw[<-hc];exact xK s i p r e pl w h hi hs
def VN(R:PR aD)(s:ByteArray)(i p r T H:Nat)(bs fs kg:List Nat)(nL nM:aq)(xs:List Nat)(w w':ay):Prop :=
 ∃(e:Bool) (f l:Nat) (fs':List Nat),w'.heap[T]?=some (cZ e f l)/\w'.heap[H]?=some cJ/\Kp xs w w' /\
  ((∃(L:aD) (j m:Nat),St w' s j 0 0 p r kg fs' nL nM/\i<=j/\j<=s.size/\s.size-j<m/\R=iQ s m L j/\(ae kg)<=ae bs+(j-i)/\(ae bs)<=ae kg/\kg.take (ae bs)=bs/\fs'.take (ae bs)=fs /\
    gI (fun q=>kg.getD q 0) (fun q=>fs'.getD q 0) (ae bs) (ae kg) e f l L) \/
   (St w' s R.j R.err R.pl p r kg fs' nL nM/\R.err≠0/\R.j=s.size/\(ae kg)<=ae bs+(R.j-i)))
theorem VN.done{R:PR aD}{s:ByteArray}{j m:Nat}{L:aD}(hR:R=iQ s m L j)(hg:gt s j≠42/\gt s j≠43/\gt s j≠63)(hm:0<m):R=good j L:=by
 obtain⟨k,rfl⟩:∃k,m=k+1:=⟨m-1,by omega⟩
 rw[hR,iQ,az hg.1,az hg.2.1,az hg.2.2]
theorem anu(s:ByteArray)(i p r:Nat)(bs fs:List Nat)(vb vf:aq)(w:ay)(A R:PR aD)(h:St w s i 0 0 p r bs fs vb vf)(hz:Nz s)(hs:s.size<=16)(hn:(ae bs)+s.size<200)(KO:∀w',St w' s i 0 0 p r bs fs vb vf->aI aB 114 #[.pointer (some ⟨r,0,none⟩)] w' (qO A s i p r bs fs vb vf w'))(hA:(A.err=0/\A.pl=0/\i<=A.j/\A.j<=s.size)\/(A.err≠0/\A.j=s.size))(hR:R=if A.err≠0 then A else iQ s 20 A.v A.j):aI aB 102 #[.pointer (some ⟨r,0,none⟩)] w (qO R s i p r bs fs vb vf w):=by
 have hr:=aE h.rd;have gF:r≠w.heap.size:=(by omega);have S0:ax (St (w.alloc cJ) s i 0 0 p r bs fs vb vf):=⟨by rw[aC,az gF];exact h.rd,h.ps.kp ((Kp.refl [] w).alloc _) (by simp),h.ap⟩;have Z0:ax ((w.alloc cJ).heap[w.heap.size]?=some cJ):=by show _=_;rw[aC,aA rfl]
 obtain⟨HS,ZI,HA,HR,HN,HZ⟩:=DF h KO hA hR hn hz;have nf:∀k,w.heap.size<=k->k∉foot p vb vf:=fun k hk hm=>by have:=HS.o.ps.lt k hm;omega
 have NF:=aj nf;clear h KO hA hR hn hz nf;go_enter Tryz.func102,Tryz.ntmps102;go_wp2_with fail;refine MC (ZI.o _ (by exact S0.o)) ?_;rintro _ w1 ⟨e,f,l,kg,RV,nL,nM,rfl,CK,k1,Hy,Lf,Io⟩;have Ic:w.heap.size∉r::foot p vb vf:=by
  intro hm;simp at hm;rcases hm with e|e
  .omega
  .exact NF.o _ (aH _) e
 have z1:=k1.keep Z0.o Ic;have IG:=aE z1;have Cz:=aE CK.rd;have oN:=aj CK;have Z1:=aj z1;have K1:=aj (((Kp.refl (r::foot p vb vf) w).alloc cJ).trans k1 (fun y hy=>.inl hy));have oH:ax (∀g∈foot p nL nM,g∈foot p vb vf\/w.heap.size+1<=g):=fun g hg=>by rcases Hy g hg with e|e;exact .inl e;right;rw[aM]at e;exact e
 have PZ:=aj Lf;have Z8:=aj Io;clear CK k1 Hy Lf Io z1;go_wp2_with fail;have TF:ax (w1.heap.size∉foot p nL nM):=fun hm=>by have:=oN.o.ps.lt _ hm;omega
 have ZF:ax (w.heap.size∉foot p nL nM):=fun hm=>by rcases oH.o _ hm with e|e;exact NF.o _ (aH _) e;omega
 have ME:ax (∀g∈foot p nL nM,g∈foot p vb vf\/w.heap.size<=g):=fun g hg=>by rcases oH.o g hg with e|e;exact .inl e;right;omega
 have vR:r ∉ [w.heap.size]:=by simp;omega
 have Xt:r≠w1.heap.size:=(by omega);go_loopw [] (fun w'=>VN R s i p r w1.heap.size w.heap.size bs fs kg nL nM (r::foot p vb vf) w w') (fun w'=>s.size-(intOf ((w'.cell? ⟨r,1,none⟩).getD eT)).toNat)
 case atStart =>
  have Mq:St (w1.alloc (cZ e f l)) s A.j A.err A.pl p r kg RV nL nM:=⟨by rw[aC,az (bY Cz)];exact oN.o.rd,oN.o.ps.kp ((Kp.refl [] _).alloc _) (by simp),oN.o.ap⟩;refine⟨e,f,l,RV,by rw[aC,aA rfl],by rw[aC,az (bY IG)];exact Z1.o,K1.o.alloc _,?_⟩;rcases HA.o with hA|hA
  .left;have hR:=HR.o;rw[az (by simp[hA.1])]at hR;rw[hA.1,hA.2.1]at Mq;obtain⟨p1,p2,p3,p4⟩:=Z8.o hA.1;exact⟨A.v,A.j,20,Mq,hA.2.2.1,hA.2.2.2,by omega,hR,PZ.o,p1,p2,p3,p4⟩
  .right;have hR:=HR.o;rw[aA hA.1]at hR;rw[hR];exact⟨Mq,hA.1,hA.2,PZ.o⟩
 case round =>
  obtain⟨e',f',l',fs',tb,zb,kk,eM⟩:=hrel;obtain⟨TB,ZB,KK⟩:=cR tb zb kk;clear tb zb kk;rcases eM with⟨L,j,m,st,vN,hj,hm,nH,dL,my,mK,If,l9⟩|⟨st,he,lY,hb⟩
  .have ST:=aj st;have jC:=aj nH;have qJ:=aj l9;have HB:=aj (And.intro dL (And.intro my (And.intro mK If)));clear st nH l9 dL my mK If;by_cases h0:gt s j=0
   ·(have lY:j=s.size:=by have:=(HZ.o j).1 h0;omega);have HG:=aj (VN.done jC.o (by omega) (by omega));subst lY;clear h0;go_wp2_with fail;refine(agW s _ p r 0 0 _ (by exact ST.o.rd)).mono ?_;rintro _ w2 ⟨rfl,n2,rfl⟩;go_upto_region 4 with fail;apply fD;refine rD rfl _ rfl (b:=w1.heap.size) (by exact TB.o) rfl ?_;refine rL rfl _ _ rfl (b:=w.heap.size) (by exact ZB.o) rfl rfl (by simp[dS]) ?_;intro w9 z9 k9 s9;go_wp2;refine cF (v:=dQ e' f' l') (kN (b:=w.heap.size) adu rfl z9) rfl ?_;refine⟨e',f',l',kg,fs',nL,nM,rfl,⟨k9.keep (by exact(by rw[HG.o];exact ST.o.rd)) vR,ST.o.ps.kp k9.kL (by intro k hk;simp at hk;subst hk;exact ZF.o),ST.o.ap⟩,(KK.o.trans k9.kL (by simp)),ME.o,(by rw[HG.o];exact HB.o.1),fun _=>⟨HB.o.2.1,HB.o.2.2.1,HB.o.2.2.2,by rw[HG.o];exact qJ.o⟩⟩
   ·(have aN:j<s.size:=by have:=(HZ.o j).2;omega);by_cases xz:gt s j=42
    ·(have jU:decide (0<=oL (uzz #[42,43,63]).data.toList (gt s j).toUInt8)=true:=by rw[Yz _ (kj s j)];simp;omega);(have qx:(gt s j:Int)=42:=by omega);(obtain⟨m,rfl⟩:∃k,m=k+1:=⟨m-1,by omega⟩);(have sC:R=iQ s m (aD.star L) (j+1):=by rw[jC.o,iQ];simp[xz]);obtain⟨A4,JB,iX⟩:=cR jU qx sC;clear jU h0 xz qx sC jC;go_wp2_with fail;refine(Av s _ j p r 0 0 true _ (by exact ST.o.rd) aN hs A4.o).mono ?_;rintro _ w2 ⟨rfl,n2,iD⟩;(have ox:w2.heap[w1.heap.size]?=some (cZ e' f' l'):=by rw[iD];exact TB.o);(have jn:w2.heap[r]?=some (dF s j 0 0 p):=by rw[iD];exact ST.o.rd);(have EX:ax (w2.heap[w.heap.size]?=some cJ):=by rw[iD];exact ZB.o);(have fF:ax (Kp (r::foot p vb vf) w w2):=by rw[iD];exact KK.o.drewN n2);(have P2:ax (dN w2 p kg fs' nL nM):=by rw[iD];exact ST.o.ps.kp ((Kp.refl [] wr).drewN n2) (by simp));(have MS:ax ((wr.cell? ⟨r,1,none⟩).getD eT=.int .i64 j):=by show _=_;rw[aF ST.o.rd];rfl);obtain⟨⟨a0,a1,a2,a3,a4,a5,a6,a7,a8⟩,_⟩:=gC ox;(have c2:w2.cell? ⟨r,2,none⟩=some (.pointer (some ⟨p,0,none⟩)):=by rw[aF jn];rfl);have wW:=aj ox;have J9:=aj jn;have lT:=aE ox;have OA:=aE jn;clear iD ox jn;go_wp2_with fail;go_region_with (first|(go_at_call 116;refine(ab0 s j p r 0 0 42 _ (by exact J9.o) aN hs JB.o).mono ?_;rintro _ w3 ⟨rfl,jy,k3⟩;obtain⟨⟨b0,b1,b2,b3,b4,b5,b6,b7,b8⟩,_⟩:=gC (k3.keep (o:=cZ e' f' l') (b:=w1.heap.size) wW.o (by simp;omega));have Rq:w3.cell? ⟨r,2,none⟩=some (.pointer (some ⟨p,0,none⟩)):=(by rw[aF jy];rfl);have qN:=aj jy;have wY:=aj (k3.keep (o:=cZ e' f' l') (b:=w1.heap.size) wW.o (by simp;omega));have EY:=aj (k3.keep (o:=cJ) (b:=w.heap.size) EX.o (by simp;omega));have P3:ax (dN w3 p kg fs' nL nM):=(P2.o.kp ((Kp.refl [r] w2).drew.trans k3 (by simp)) (by intro k hk;simp at hk;subst hk;exact ST.o.ap));have vj:=aj ((fF.o.drew).trans k3 (by simp));clear jy k3)|(go_at_call 115;refine(anx p e' f' l' kg fs' nL nM _ (by exact P3.o) (by have:=HN.o;have:=HB.o.1;have:=ST.o.ps.len;omega)).mono ?_;rintro _ w4 ⟨rfl,P4,k4⟩;obtain⟨⟨d0,d1,d2,d3,d4,d5,d6,d7,d8⟩,g0,g1,g2,g3,g4,g5,g6,g7,g8⟩:=gC (k4.keep wY.o TF.o);have yo:=aj (k4.keep qN.o ST.o.ap);have EL:=aj (k4.keep wY.o TF.o);have EZ:=aj (k4.keep EY.o ZF.o);have vx:=aj P4;have Ep:=aj (vj.o.trans k4 (fun y hy=>by rcases ME.o y hy with e|e;exact .inl (by simp[e]);exact .inr e));clear P4 k4))
     all_goals
      go_wp2;have kq:=(Kp.refl [w1.heap.size] w4).mQ (b:=w1.heap.size) (by simp) (.bool true) (.int .u64 (wd f' 0)) (.int .u64 (wd f' 1)) (.int .u64 (wd f' 2)) (.int .u64 (wd f' 3)) (.int .u64 (wd l' 0)) (.int .u64 (wd l' 1)) (.int .u64 (wd l' 2)) (.int .u64 (wd l' 3));have rq:=kq.keep yo.o (by simp;omega);refine⟨⟨true,f',l',uM l' f' fs',?_,kq.keep EZ.o (by simp;omega),Ep.o.trans kq (by simp;omega),.inl ⟨aD.star L,j+1,m,⟨rq,vx.o.kp kq (by intro k hk;simp at hk;subst hk;exact TF.o),ST.o.ap⟩,by omega,by omega,by omega,iX.o,?_,HB.o.2.1,HB.o.2.2.1,?_,?_⟩⟩,?_⟩
      .simp only[aQ,EL.o];simp[eD]
      .have:=HB.o.1;omega
      .rw[abT _ _ _ _ _ qJ.o.la];exact HB.o.2.2.2
      .exact gI.linked qJ.o.star (by rw[ST.o.ps.len];exact aH _)
      .rw[MS.o,aF rq];simp[intOf];omega
    .by_cases Xz:gt s j=43
     ·(have jU:decide (0<=oL (uzz #[42,43,63]).data.toList (gt s j).toUInt8)=true:=by rw[Yz _ (kj s j)];simp;omega);(have qx:(gt s j:Int)=43:=by omega);(obtain⟨m,rfl⟩:∃k,m=k+1:=⟨m-1,by omega⟩);(have sC:R=iQ s m (aD.plus L) (j+1):=by rw[jC.o,iQ];simp[Xz]);obtain⟨A4,JB,iX⟩:=cR jU qx sC;clear jU h0 xz Xz qx sC jC;go_wp2_with fail;refine(Av s _ j p r 0 0 true _ (by exact ST.o.rd) aN hs A4.o).mono ?_;rintro _ w2 ⟨rfl,n2,iD⟩;(have ox:w2.heap[w1.heap.size]?=some (cZ e' f' l'):=by rw[iD];exact TB.o);(have jn:w2.heap[r]?=some (dF s j 0 0 p):=by rw[iD];exact ST.o.rd);(have EX:ax (w2.heap[w.heap.size]?=some cJ):=by rw[iD];exact ZB.o);(have fF:ax (Kp (r::foot p vb vf) w w2):=by rw[iD];exact KK.o.drewN n2);(have P2:ax (dN w2 p kg fs' nL nM):=by rw[iD];exact ST.o.ps.kp ((Kp.refl [] wr).drewN n2) (by simp));(have MS:ax ((wr.cell? ⟨r,1,none⟩).getD eT=.int .i64 j):=by show _=_;rw[aF ST.o.rd];rfl);obtain⟨⟨a0,a1,a2,a3,a4,a5,a6,a7,a8⟩,_⟩:=gC ox;(have c2:w2.cell? ⟨r,2,none⟩=some (.pointer (some ⟨p,0,none⟩)):=by rw[aF jn];rfl);have wW:=aj ox;have J9:=aj jn;have lT:=aE ox;have OA:=aE jn;clear iD ox jn;go_wp2_with fail;go_region_with (first|(go_at_call 116;refine(ab0 s j p r 0 0 43 _ (by exact J9.o) aN hs JB.o).mono ?_;rintro _ w3 ⟨rfl,jy,k3⟩;obtain⟨⟨b0,b1,b2,b3,b4,b5,b6,b7,b8⟩,_⟩:=gC (k3.keep (o:=cZ e' f' l') (b:=w1.heap.size) wW.o (by simp;omega));have Rq:w3.cell? ⟨r,2,none⟩=some (.pointer (some ⟨p,0,none⟩)):=(by rw[aF jy];rfl);have qN:=aj jy;have wY:=aj (k3.keep (o:=cZ e' f' l') (b:=w1.heap.size) wW.o (by simp;omega));have EY:=aj (k3.keep (o:=cJ) (b:=w.heap.size) EX.o (by simp;omega));have P3:ax (dN w3 p kg fs' nL nM):=(P2.o.kp ((Kp.refl [r] w2).drew.trans k3 (by simp)) (by intro k hk;simp at hk;subst hk;exact ST.o.ap));have vj:=aj ((fF.o.drew).trans k3 (by simp));clear jy k3)|(go_at_call 115;refine(anw p e' f' l' kg fs' nL nM _ (by exact P3.o) (by have:=HN.o;have:=HB.o.1;have:=ST.o.ps.len;omega)).mono ?_;rintro _ w4 ⟨rfl,P4,k4⟩;obtain⟨⟨d0,d1,d2,d3,d4,d5,d6,d7,d8⟩,g0,g1,g2,g3,g4,g5,g6,g7,g8⟩:=gC (k4.keep wY.o TF.o);have yo:=aj (k4.keep qN.o ST.o.ap);have EL:=aj (k4.keep wY.o TF.o);have EZ:=aj (k4.keep EY.o ZF.o);have vx:=aj P4;have Ep:=aj (vj.o.trans k4 (fun y hy=>by rcases ME.o y hy with e|e;exact .inl (by simp[e]);exact .inr e));clear P4 k4))
      all_goals
       go_wp2;have kq:=(Kp.refl [w1.heap.size] w4).mQ (b:=w1.heap.size) (by simp) (.bool e') (.int .u64 (wd f' 0)) (.int .u64 (wd f' 1)) (.int .u64 (wd f' 2)) (.int .u64 (wd f' 3)) (.int .u64 (wd l' 0)) (.int .u64 (wd l' 1)) (.int .u64 (wd l' 2)) (.int .u64 (wd l' 3));have rq:=kq.keep yo.o (by simp;omega);refine⟨⟨e',f',l',uM l' f' fs',?_,kq.keep EZ.o (by simp;omega),Ep.o.trans kq (by simp;omega),.inl ⟨aD.plus L,j+1,m,⟨rq,vx.o.kp kq (by intro k hk;simp at hk;subst hk;exact TF.o),ST.o.ap⟩,by omega,by omega,by omega,iX.o,?_,HB.o.2.1,HB.o.2.2.1,?_,?_⟩⟩,?_⟩
       .simp only[aQ,EL.o];simp[eD]
       .have:=HB.o.1;omega
       .rw[abT _ _ _ _ _ qJ.o.la];exact HB.o.2.2.2
       .exact gI.linked qJ.o.plus (by rw[ST.o.ps.len];exact aH _)
       .rw[MS.o,aF rq];simp[intOf];omega
     .by_cases abF:gt s j=63
      ·(have jU:decide (0<=oL (uzz #[42,43,63]).data.toList (gt s j).toUInt8)=true:=by rw[Yz _ (kj s j)];simp;omega);(have qx:(gt s j:Int)=63:=by omega);(obtain⟨m,rfl⟩:∃k,m=k+1:=⟨m-1,by omega⟩);(have sC:R=iQ s m (aD.opt L) (j+1):=by rw[jC.o,iQ];simp[abF]);obtain⟨A4,JB,iX⟩:=cR jU qx sC;clear jU h0 xz Xz abF qx sC jC;go_wp2_with fail;refine(Av s _ j p r 0 0 true _ (by exact ST.o.rd) aN hs A4.o).mono ?_;rintro _ w2 ⟨rfl,n2,iD⟩;(have ox:w2.heap[w1.heap.size]?=some (cZ e' f' l'):=by rw[iD];exact TB.o);(have jn:w2.heap[r]?=some (dF s j 0 0 p):=by rw[iD];exact ST.o.rd);(have EX:ax (w2.heap[w.heap.size]?=some cJ):=by rw[iD];exact ZB.o);(have fF:ax (Kp (r::foot p vb vf) w w2):=by rw[iD];exact KK.o.drewN n2);(have P2:ax (dN w2 p kg fs' nL nM):=by rw[iD];exact ST.o.ps.kp ((Kp.refl [] wr).drewN n2) (by simp));(have MS:ax ((wr.cell? ⟨r,1,none⟩).getD eT=.int .i64 j):=by show _=_;rw[aF ST.o.rd];rfl);obtain⟨⟨a0,a1,a2,a3,a4,a5,a6,a7,a8⟩,_⟩:=gC ox;(have c2:w2.cell? ⟨r,2,none⟩=some (.pointer (some ⟨p,0,none⟩)):=by rw[aF jn];rfl);have wW:=aj ox;have J9:=aj jn;have lT:=aE ox;have OA:=aE jn;clear iD ox jn;go_wp2_with fail;go_region_with (first|(go_at_call 116;refine(ab0 s j p r 0 0 63 _ (by exact J9.o) aN hs JB.o).mono ?_;rintro _ w3 ⟨rfl,jy,k3⟩;obtain⟨⟨b0,b1,b2,b3,b4,b5,b6,b7,b8⟩,_⟩:=gC (k3.keep (o:=cZ e' f' l') (b:=w1.heap.size) wW.o (by simp;omega));have Rq:w3.cell? ⟨r,2,none⟩=some (.pointer (some ⟨p,0,none⟩)):=(by rw[aF jy];rfl);have qN:=aj jy;have wY:=aj (k3.keep (o:=cZ e' f' l') (b:=w1.heap.size) wW.o (by simp;omega));have EY:=aj (k3.keep (o:=cJ) (b:=w.heap.size) EX.o (by simp;omega));have P3:ax (dN w3 p kg fs' nL nM):=(P2.o.kp ((Kp.refl [r] w2).drew.trans k3 (by simp)) (by intro k hk;simp at hk;subst hk;exact ST.o.ap));have vj:=aj ((fF.o.drew).trans k3 (by simp));clear jy k3)|(go_at_call 115;refine(anv p e' f' l' kg fs' nL nM _ (by exact P3.o)).mono ?_;rintro _ w4 ⟨rfl,P4,k4⟩;obtain⟨⟨d0,d1,d2,d3,d4,d5,d6,d7,d8⟩,g0,g1,g2,g3,g4,g5,g6,g7,g8⟩:=gC (k4.keep wY.o TF.o);have yo:=aj (k4.keep qN.o ST.o.ap);have EL:=aj (k4.keep wY.o TF.o);have EZ:=aj (k4.keep EY.o ZF.o);have vx:=aj P4;have Ep:=aj (vj.o.trans k4 (fun y hy=>by rcases ME.o y hy with e|e;exact .inl (by simp[e]);exact .inr e));clear P4 k4))
       all_goals
        go_wp2;have kq:=(Kp.refl [w1.heap.size] w4).mQ (b:=w1.heap.size) (by simp) (.bool true) (.int .u64 (wd f' 0)) (.int .u64 (wd f' 1)) (.int .u64 (wd f' 2)) (.int .u64 (wd f' 3)) (.int .u64 (wd l' 0)) (.int .u64 (wd l' 1)) (.int .u64 (wd l' 2)) (.int .u64 (wd l' 3));have rq:=kq.keep yo.o (by simp;omega);refine⟨⟨true,f',l',fs',?_,kq.keep EZ.o (by simp;omega),Ep.o.trans kq (by simp;omega),.inl ⟨aD.opt L,j+1,m,⟨rq,vx.o.kp kq (by intro k hk;simp at hk;subst hk;exact TF.o),ST.o.ap⟩,by omega,by omega,by omega,iX.o,?_,HB.o.2.1,HB.o.2.2.1,?_,?_⟩⟩,?_⟩
        .simp only[aQ,EL.o];simp[eD]
        .have:=HB.o.1;omega
        .exact HB.o.2.2.2
        .exact qJ.o.opt
        .rw[MS.o,aF rq];simp[intOf];omega
      ·(have jU:decide (0<=oL (uzz #[42,43,63]).data.toList (gt s j).toUInt8)=false:=by rw[Yz _ (kj s j)];simp;omega);have HG:=aj (VN.done jC.o (by omega) (by omega));have A4:=aj jU;clear jU h0 xz Xz abF;go_wp2_with fail;refine(Av s _ j p r 0 0 false _ (by exact ST.o.rd) aN hs A4.o).mono ?_;rintro _ w2 ⟨rfl,n2,rfl⟩;go_upto_region 4 with fail;apply fD;refine rD rfl _ rfl (b:=w1.heap.size) (by exact TB.o) rfl ?_;refine rL rfl _ _ rfl (b:=w.heap.size) (by exact ZB.o) rfl rfl (by simp[dS]) ?_;intro w9 z9 k9 s9;go_wp2;refine cF (v:=dQ e' f' l') (kN (b:=w.heap.size) adu rfl z9) rfl ?_;refine⟨e',f',l',kg,fs',nL,nM,rfl,⟨k9.keep (by exact(by rw[HG.o];exact ST.o.rd)) vR,ST.o.ps.kp k9.kL (by intro k hk;simp at hk;subst hk;exact ZF.o),ST.o.ap⟩,(KK.o.trans k9.kL (by simp)),ME.o,(by rw[HG.o];exact HB.o.1),fun _=>⟨HB.o.2.1,HB.o.2.2.1,HB.o.2.2.2,by rw[HG.o];exact qJ.o⟩⟩
  .have ST:=aj st;obtain⟨HE,HJ,HB⟩:=cR he lY hb;clear st he lY hb;go_wp2_with fail;refine(agW s _ p r R.err R.pl _ (by rw[<-HJ.o];exact ST.o.rd)).mono ?_;rintro _ w2 ⟨rfl,n2,rfl⟩;go_upto_region 4 with fail;apply fD;refine rD rfl _ rfl (b:=w1.heap.size) (by exact TB.o) rfl ?_;refine rL rfl _ _ rfl (b:=w.heap.size) (by exact ZB.o) rfl rfl (by simp[dS]) ?_;intro w9 z9 k9 s9;go_wp2;refine cF (v:=dQ e' f' l') (kN (b:=w.heap.size) adu rfl z9) rfl ?_;refine⟨e',f',l',kg,fs',nL,nM,rfl,⟨k9.keep (by exact ST.o.rd) vR,ST.o.ps.kp k9.kL (by intro k hk;simp at hk;subst hk;exact ZF.o),ST.o.ap⟩,(KK.o.trans k9.kL (by simp)),ME.o,HB.o,fun hh=>absurd hh HE.o⟩
def rR(s:ByteArray)(m j:Nat):PR aD:=if (pp s m 2 aD.aX j).err≠0 then pp s m 2 aD.aX j else iQ s 20 (pp s m 2 aD.aX j).v (pp s m 2 aD.aX j).j
theorem anf(s:ByteArray)(hz:Nz s)(m j:Nat)(hj:j<s.size):((rR s m j).err=0/\(rR s m j).pl=0/\j<(rR s m j).j/\(rR s m j).j<=s.size)\/((rR s m j).err≠0/\(rR s m j).j=s.size):=by
 unfold rR;rcases(Ao s hz m).2.2 aD.aX j hj with⟨a1,a2,a3,a4,a5⟩|⟨a1,a2⟩
 .rw[az (by simp[a1])];have:=Uq s hz 20 (pp s m 2 aD.aX j).v (pp s m 2 aD.aX j).j a5;have h4:=a4 trivial;exact .inl ⟨this.1,this.2.1,by omega,this.2.2.2⟩
 .rw[aA a1];exact .inr ⟨a1,a2⟩
theorem ajn(s:ByteArray)(m j:Nat)(L:aD)(hz:Nz s)(hj:j<s.size)(h1:gt s j≠0)(h2:gt s j≠124)(h3:gt s j≠41):pp s (m+1) 1 L j=if (rR s m j).err≠0 then rR s m j else pp s m 1 (aD.cat L (rR s m j).v) (rR s m j).j:=by
 rw[OV,az (by omega)];unfold rR;by_cases hA:(pp s m 2 aD.aX j).err≠0
 .rw[aA hA,aA hA,aA hA]
 .rw[az hA,az hA];have hA':(pp s m 2 aD.aX j).err=0:=(by simpa using hA);rcases(Ao s hz m).2.2 aD.aX j hj with⟨a1,a2,a3,a4,a5⟩|⟨a1,a2⟩
  .rw[az (by have:=(Uq s hz 20 (pp s m 2 aD.aX j).v (pp s m 2 aD.aX j).j a5).1;simp[this])]
  .exact absurd hA' a1
theorem gI.longer{bs fs zF zJ:List Nat}{lo:Nat}{e:Bool}{f l:Nat}{L:aD}(h:gI (fun q=>bs.getD q 0) (fun q=>fs.getD q 0) lo (ae bs) e f l L)(hl:(ae fs)=ae bs)(hb:zF.take (ae bs)=bs)(hf:zJ.take (ae bs)=fs):gI (fun q=>zF.getD q 0) (fun q=>zJ.getD q 0) lo (ae bs) e f l L:=by
 refine h.congr (fun q hq=>?_) (fun q _ hq=>?_)
 .show zF.getD q 0=bs.getD q 0;rw[aO,aO];have:=congrArg (fun l:List Nat=>l[q]?) hb;simp only[Eu,aA hq]at this;rw[this]
 .show zJ.getD q 0=fs.getD q 0;rw[aO,aO];have:=congrArg (fun l:List Nat=>l[q]?) hf;simp only[Eu,aA hq]at this;rw[this]
theorem agV(c:Nat)(hc:c<256):decide (0<=oL (uzz #[124,41]).data.toList c.toUInt8)=decide (c=124\/c=41):=by
 have h:∀c:Fin 256,decide (0<=oL (uzz #[124,41]).data.toList c.1.toUInt8)=decide (c.1=124\/c.1=41):=(by decide +kernel)
 exact h ⟨c,hc⟩
theorem ajy(p:Nat)(e1 e2:Bool)(f1 l1 f2 l2:Nat)(bs fs:List Nat)(vb vf:aq)(w:ay)(h:dN w p bs fs vb vf)(hn:(ae fs)<=200):aI aB 101 #[.pointer (some ⟨p,0,none⟩),dQ e1 f1 l1,dQ e2 f2 l2] w fun x w'=>∃E F M,(E=(e1 && e2)/\F=(if e1 then f1 ||| f2 else f1)/\M=(if e2 then l1 ||| l2 else l2))/\x=.returned (dQ E F M)/\dN w' p bs (uM l1 f2 fs) vb vf/\Kp (foot p vb vf) w w':=by
 refine(ajx p e1 e2 f1 l1 f2 l2 bs fs vb vf w h hn).mono ?_;rintro x w' ⟨hx,hp,hk⟩;exact⟨_,_,_,⟨rfl,rfl,rfl⟩,hx,hp,hk⟩
theorem YR{l m:List Nat}{a b:Nat}(h:l.take b=m)(zL:a<=b):l.take a=m.take a:=by
 rw[<-h,List.take_take,Nat.min_eq_left zL]
def ahH(R:PR aD)(s:ByteArray)(n i p r T H:Nat)(bs fs:List Nat)(vb vf:aq)(w w':ay):Prop :=
 ∃(e:Bool) (f l:Nat) (bs' fs':List Nat) (eg dP:aq),w'.heap[T]?=some (cZ e f l)/\w'.heap[H]?=some cJ/\Kp (r::foot p vb vf) w w'/\(∀g∈foot p eg dP,g∈foot p vb vf\/w.heap.size<=g)/\T∉foot p eg dP/\H∉foot p eg dP /\
  ((∃(L:aD) (j m:Nat),St w' s j 0 0 p r bs' fs' eg dP/\i<=j/\j<=s.size/\2*(s.size-j)+2<=m/\m<=n/\R=pp s m 1 L j/\(ae bs')<=ae bs+(j-i)/\(ae bs)<=ae bs'/\bs'.take (ae bs)=bs/\fs'.take (ae bs)=fs /\
    gI (fun q=>bs'.getD q 0) (fun q=>fs'.getD q 0) (ae bs) (ae bs') e f l L) \/
   (St w' s R.j R.err R.pl p r bs' fs' eg dP/\R.err≠0/\R.j=s.size/\(ae bs')<=ae bs+(R.j-i)))
theorem ad0{R:PR aD}{s:ByteArray}{j m:Nat}{L:aD}(hR:R=pp s m 1 L j)(hg:gt s j=0\/gt s j=124\/gt s j=41)(hm:0<m):R=good j L:=by
 obtain⟨k,rfl⟩:∃k,m=k+1:=⟨m-1,by omega⟩
 rw[hR,OV,aA hg]
theorem ajm(s:ByteArray)(n i p r:Nat)(bs fs:List Nat)(vb vf:aq)(w:ay)(R:PR aD)(hR:R=pp s n 1 aD.aX i)(h:St w s i 0 0 p r bs fs vb vf)(hz:Nz s)(hs:s.size<=16)(hn:(ae bs)+s.size<184)(hi:i<=s.size)(hf:2*(s.size-i)+2<=n)(pA:∀m,m<n->∀(j:Nat) (bs' fs':List Nat) (eg dP:aq) (w':ay),j<s.size->2*(s.size-j)+1<=m->gt s j≠124->gt s j≠41->ae bs'+s.size<200->i<=j->ae bs'<=ae bs+(j-i)->St w' s j 0 0 p r bs' fs' eg dP->aI aB 102 #[.pointer (some ⟨r,0,none⟩)] w' (qO (rR s m j) s j p r bs' fs' eg dP w')):aI aB 74 #[.pointer (some ⟨r,0,none⟩)] w (qO R s i p r bs fs vb vf w):=by
 have hr:=aE h.rd;have gF:r≠w.heap.size:=(by omega);obtain⟨HS,HR,HN,HZ,HF,ah0⟩:=DF h hR hn hz hf pA;have nf:∀k,w.heap.size<=k->k∉foot p vb vf:=fun k hk hm=>by have:=HS.o.ps.lt k hm;omega
 have NF:=aj nf;clear h pA hR hn hz nf hf;go_enter Tryz.func74,Tryz.ntmps74;go_wp2_with fail;refine(agc _).mono ?_;rintro _ w1 ⟨rfl,b1⟩;have z1:w1.heap[w.heap.size]?=some cJ:=bV b1 (by rw[aC,aA rfl]);have K1:=aj (((Kp.refl (r::foot p vb vf) w).alloc cJ).below b1);have S1:ax (St w1 s i 0 0 p r bs fs vb vf):=⟨bV b1 (by rw[aC,az gF];exact HS.o.rd),HS.o.ps.kp (((Kp.refl [] w).alloc cJ).below b1) (by simp),HS.o.ap⟩;have IG:=aE z1;have Cz:=aE S1.o.rd;have Z1:=aj z1;clear b1 z1;go_wp2_with fail;have vR:r ∉ [w.heap.size]:=by simp;omega
 have Xt:r≠w1.heap.size:=(by omega);go_loopw [] (fun w'=>ahH R s n i p r w1.heap.size w.heap.size bs fs vb vf w w') (fun w'=>s.size-(intOf ((w'.cell? ⟨r,1,none⟩).getD eT)).toNat)
 case atStart =>
  refine⟨true,0,0,bs,fs,vb,vf,by rw[aC,aA rfl],by rw[aC,az (bY IG)];exact Z1.o,K1.o.alloc _,fun g hg=>.inl hg,NF.o _ (by omega),NF.o _ (aH _),.inl ⟨aD.aX,i,n,⟨by rw[aC,az (bY Cz)];exact S1.o.rd,S1.o.ps.kp ((Kp.refl [] _).alloc _) (by simp),HS.o.ap⟩,aH _,hi,HF.o,aH _,HR.o,by omega,aH _,by simp,?_,gI.aX _ _ _⟩⟩;rw[<-HS.o.ps.len];simp
 case round =>
  obtain⟨e',f',l',bs',fs',eg,dP,tb,zb,kk,fr,ft,fz,eM⟩:=hrel;obtain⟨TB,ZB,KK,FR,FT,FZ⟩:=DF tb zb kk fr ft fz;clear tb zb kk fr ft fz;rcases eM with⟨L,j,m,st,vN,hj,hm,hmn,nH,dL,my,mK,If,l9⟩|⟨st,he,lY,hb⟩
  .have ST:=aj st;have jC:=aj nH;have qJ:=aj l9;have HB:=aj (And.intro dL (And.intro my (And.intro mK If)));clear st nH l9 dL my mK If;by_cases h0:gt s j=0
   ·(have lY:j=s.size:=by have:=(HZ.o j).1 h0;omega);have HG:=aj (ad0 jC.o (by omega) (by omega));subst lY;clear h0;go_wp2_with fail;refine(yC s p r 0 0 _ (by exact ST.o.rd)).mono ?_;rintro _ w2 ⟨rfl,n2,rfl⟩;go_upto_region 4 with fail;apply fD;refine rD rfl _ rfl (b:=w1.heap.size) (by exact TB.o) rfl ?_;refine rL rfl _ _ rfl (b:=w.heap.size) (by exact ZB.o) rfl rfl (by simp[dS]) ?_;intro w9 z9 k9 s9;go_wp2;refine cF (v:=dQ e' f' l') (kN (b:=w.heap.size) ady rfl z9) rfl ?_;refine⟨e',f',l',bs',fs',eg,dP,rfl,⟨k9.keep (by exact(by rw[HG.o];exact ST.o.rd)) vR,ST.o.ps.kp k9.kL (by intro k hk;simp at hk;subst hk;exact FZ.o),ST.o.ap⟩,(KK.o.trans k9.kL (by simp)),FR.o,(by rw[HG.o];exact HB.o.1),fun _=>⟨HB.o.2.1,HB.o.2.2.1,HB.o.2.2.2,by rw[HG.o];exact qJ.o⟩⟩
   ·(have aN:j<s.size:=by have:=(HZ.o j).2;omega);by_cases xz:gt s j=124\/gt s j=41
    ·(have jU:decide (0<=oL (uzz #[124,41]).data.toList (gt s j).toUInt8)=true:=by rw[agV _ (kj s j)];simp;omega);have HG:=aj (ad0 jC.o (by omega) (by omega));have A4:=aj jU;clear jU h0 xz;go_wp2_with fail;refine(yB s j p r 0 0 _ (by exact ST.o.rd) aN).mono ?_;rintro _ w2 ⟨rfl,n2,rfl⟩;go_wp2_with fail;refine(Av s _ j p r 0 0 true _ (by exact ST.o.rd) aN hs A4.o).mono ?_;rintro _ w3 ⟨rfl,n3,rfl⟩;go_upto_region 4 with fail;apply fD;refine rD rfl _ rfl (b:=w1.heap.size) (by exact TB.o) rfl ?_;refine rL rfl _ _ rfl (b:=w.heap.size) (by exact ZB.o) rfl rfl (by simp[dS]) ?_;intro w9 z9 k9 s9;go_wp2;refine cF (v:=dQ e' f' l') (kN (b:=w.heap.size) ady rfl z9) rfl ?_;refine⟨e',f',l',bs',fs',eg,dP,rfl,⟨k9.keep (by exact(by rw[HG.o];exact ST.o.rd)) vR,ST.o.ps.kp k9.kL (by intro k hk;simp at hk;subst hk;exact FZ.o),ST.o.ap⟩,(KK.o.trans k9.kL (by simp)),FR.o,(by rw[HG.o];exact HB.o.1),fun _=>⟨HB.o.2.1,HB.o.2.2.1,HB.o.2.2.2,by rw[HG.o];exact qJ.o⟩⟩
    ·(have jU:decide (0<=oL (uzz #[124,41]).data.toList (gt s j).toUInt8)=false:=by rw[agV _ (kj s j)];simp;omega);(obtain⟨m,rfl⟩:∃k,m=k+1:=⟨m-1,by omega⟩);(have sC:R=if (rR s m j).err≠0 then rR s m j else pp s m 1 (aD.cat L (rR s m j).v) (rR s m j).j:=by rw[jC.o];exact ajn s m j L HZ.o aN h0 (by omega) (by omega));have hC:∀w',St w' s j 0 0 p r bs' fs' eg dP->aI aB 102 #[.pointer (some ⟨r,0,none⟩)] w' (qO (rR s m j) s j p r bs' fs' eg dP w') :=
      fun w' h'=>ah0.o m (by omega) j bs' fs' eg dP w' aN (by omega) (by omega) (by omega) (by have:=HN.o;have:=HB.o.1;omega) vN HB.o.1 h'
     have Tl:=anf s HZ.o m j aN;generalize rR s m j=B at *;obtain⟨A4,iX,HC,Nf⟩:=dH jU sC hC Tl;clear jU h0 xz sC hC Tl jC;go_wp2_with fail;refine(yB s j p r 0 0 _ (by exact ST.o.rd) aN).mono ?_;rintro _ w2a ⟨rfl,n1,rfl⟩;go_wp2_with fail;refine(Av s _ j p r 0 0 false _ (by exact ST.o.rd) aN hs A4.o).mono ?_;rintro _ w2 ⟨rfl,n2,iD⟩;(have ox:w2.heap[w1.heap.size]?=some (cZ e' f' l'):=by rw[iD];exact TB.o);(have jn:w2.heap[r]?=some (dF s j 0 0 p):=by rw[iD];exact ST.o.rd);(have Mw:w2.heap[w.heap.size]?=some cJ:=by rw[iD];exact ZB.o);(have fF:ax (Kp (r::foot p vb vf) w w2.drew):=by rw[iD];exact((KK.o.drewN n1).drewN n2).drew);have SD2:ax (St w2.drew s j 0 0 p r bs' fs' eg dP):=⟨jn,by rw[iD];exact ST.o.ps.kp ((((Kp.refl [] wr).drewN n1).drewN n2).drew) (by simp),ST.o.ap⟩;(have MS:ax ((wr.cell? ⟨r,1,none⟩).getD eT=.int .i64 j):=by show _=_;rw[aF ST.o.rd];rfl);obtain⟨⟨a0,a1,a2,a3,a4,a5,a6,a7,a8⟩,_⟩:=gC ox;(have c2:w2.cell? ⟨r,2,none⟩=some (.pointer (some ⟨p,0,none⟩)):=by rw[aF jn];rfl);have wW:ax (w2.drew.heap[w1.heap.size]?=some (cZ e' f' l')):=ox;have EX:ax (w2.drew.heap[w.heap.size]?=some cJ):=Mw;have lT:w1.heap.size<w2.drew.heap.size:=aE ox;have lZ:w.heap.size<w2.drew.heap.size:=aE Mw;(have Sm:w1.heap.size∉r::foot p eg dP:=by intro hm;simp at hm;rcases hm with e|e;omega;exact FT.o e);(have Ic:w.heap.size∉r::foot p eg dP:=by intro hm;simp at hm;rcases hm with e|e;omega;exact FZ.o e);have Qi:=aj Sm;have HZN:=aj Ic;have OA:=aE jn;clear iD ox jn Mw Sm Ic;go_wp2_with fail;go_region_with (first|(go_at_call 102;refine MC (HC.o _ (by exact SD2.o)) ?_;rintro _ w3 ⟨e2,f2,l2,zF,zJ,uR,uS,rfl,O4,k3,gA,yO,Td⟩;obtain⟨⟨b0,b1,b2,b3,b4,b5,b6,b7,b8⟩,_⟩:=gC (k3.keep wW.o Qi.o);have Rq:w3.cell? ⟨r,2,none⟩=some (.pointer (some ⟨p,0,none⟩)):=(by rw[aF O4.rd];rfl);have wT:=aj O4;have wY:=aj (k3.keep wW.o Qi.o);have EY:=aj (k3.keep EX.o HZN.o);have vj:=aj (fF.o.trans k3 (fun y hy=>by simp only[gH]at hy;rcases hy with e|e;exact .inl (by simp[e]);rcases FR.o y e with e|e;exact .inl (by simp[e]);exact .inr e));have sY:ax (∀g∈foot p uR uS,g∈foot p vb vf\/w.heap.size<=g):=(fun g hg=>by rcases gA g hg with e|e;exact FR.o g e;right;omega);have Jy:ax (w1.heap.size∉foot p uR uS):=(fun hg=>by rcases gA _ hg with e|e;exact FT.o e;omega);have UU:ax (w.heap.size∉foot p uR uS):=(fun hg=>by rcases gA _ hg with e|e;exact FZ.o e;omega);have Gt:=aj yO;have AX:=aj Td;clear O4 k3 gA yO Td)|(go_at_call 101;refine(ajy p e' e2 f' l' f2 l2 zF zJ uR uS _ (by exact wT.o.ps) (by have:=HN.o;have:=HB.o.1;have:=Gt.o;have:=wT.o.ps.len;rcases Nf.o with h|h<;>omega)).mono ?_;rintro _ w4 ⟨E4,F4,M4,hE,rfl,P4,k4⟩;obtain⟨⟨d0,d1,d2,d3,d4,d5,d6,d7,d8⟩,g0,g1,g2,g3,g4,g5,g6,g7,g8⟩:=gC (k4.keep wY.o Jy.o);have HE4:=aj hE;have yo:=aj (k4.keep wT.o.rd wT.o.ap);have EL:=aj (k4.keep wY.o Jy.o);have EZ:=aj (k4.keep EY.o UU.o);have vx:=aj P4;have Ep:=aj (vj.o.trans k4 (fun y hy=>by rcases sY.o y hy with e|e;exact .inl (by simp[e]);exact .inr e));clear hE P4 k4))
     all_goals
      go_wp2;have kq:=(Kp.refl [w1.heap.size] w4).mQ (b:=w1.heap.size) (by simp) (.bool E4) (.int .u64 (wd F4 0)) (.int .u64 (wd F4 1)) (.int .u64 (wd F4 2)) (.int .u64 (wd F4 3)) (.int .u64 (wd M4 0)) (.int .u64 (wd M4 1)) (.int .u64 (wd M4 2)) (.int .u64 (wd M4 3));have rq:=kq.keep yo.o (by simp;omega);refine⟨⟨E4,F4,M4,zF,uM l' f2 zJ,uR,uS,?_,kq.keep EZ.o (by simp;omega),Ep.o.trans kq (by simp;omega),sY.o,Jy.o,UU.o,?_⟩,?_⟩
      .simp only[aQ,EL.o];simp[eD]
      .have PF:=vx.o.kp kq (by intro k hk;simp at hk;subst hk;exact Jy.o);have yO:=Gt.o;have dL:=HB.o.1;rcases Nf.o with⟨q1,q2,q3,q4⟩|⟨q1,q2⟩
       .left;have hR:=iX.o;rw[az (by simp[q1])]at hR;rw[q1,q2]at rq;obtain⟨r1,r2,r3,r4⟩:=AX.o q1;refine⟨aD.cat L B.v,B.j,m,⟨rq,PF,wT.o.ap⟩,by omega,q4,by omega,by omega,hR,by omega,by have:=HB.o.2.1;omega,?_,?_,?_⟩
        .rw[YR r2 HB.o.2.1];exact HB.o.2.2.1
        .rw[abT _ _ _ _ _ qJ.o.la,YR r3 HB.o.2.1];exact HB.o.2.2.2
        .obtain⟨hE,hF,hM⟩:=HE4.o;rw[hE,hF,hM];exact gI.linked (gI.chain (gI.longer qJ.o ST.o.ps.len r2 r3) r4 HB.o.2.1 r1) (by rw[wT.o.ps.len];exact aH _)
       .right;have hR:=iX.o;rw[aA q1]at hR;rw[hR];exact⟨⟨rq,PF,wT.o.ap⟩,q1,q2,by omega⟩
      .rw[MS.o,aF rq];rcases Nf.o with h|h<;>simp[intOf]<;>omega
  .have ST:=aj st;obtain⟨HE,HJ,HB⟩:=cR he lY hb;clear st he lY hb;go_wp2_with fail;refine(yC s p r R.err R.pl _ (by rw[<-HJ.o];exact ST.o.rd)).mono ?_;rintro _ w2 ⟨rfl,n2,rfl⟩;go_upto_region 4 with fail;apply fD;refine rD rfl _ rfl (b:=w1.heap.size) (by exact TB.o) rfl ?_;refine rL rfl _ _ rfl (b:=w.heap.size) (by exact ZB.o) rfl rfl (by simp[dS]) ?_;intro w9 z9 k9 s9;go_wp2;refine cF (v:=dQ e' f' l') (kN (b:=w.heap.size) ady rfl z9) rfl ?_;refine⟨e',f',l',bs',fs',eg,dP,rfl,⟨k9.keep (by exact ST.o.rd) vR,ST.o.ps.kp k9.kL (by intro k hk;simp at hk;subst hk;exact FZ.o),ST.o.ap⟩,(KK.o.trans k9.kL (by simp)),FR.o,HB.o,fun hh=>absurd hh HE.o⟩
def aR(s:ByteArray)(n i:Nat):PR aD:=if (pp s n 1 aD.aX i).err≠0 then pp s n 1 aD.aX i else pp s n 0 (pp s n 1 aD.aX i).v (pp s n 1 aD.aX i).j
def ahy(R:PR aD)(s:ByteArray)(n i p r T H:Nat)(bs fs:List Nat)(vb vf:aq)(w w':ay):Prop :=
 ∃(e:Bool) (f l:Nat) (bs' fs':List Nat) (eg dP:aq),w'.heap[T]?=some (cZ e f l)/\w'.heap[H]?=some cJ/\Kp (r::foot p vb vf) w w'/\(∀g∈foot p eg dP,g∈foot p vb vf\/w.heap.size<=g)/\T∉foot p eg dP/\H∉foot p eg dP /\
  ((∃(L:aD) (j m:Nat),St w' s j 0 0 p r bs' fs' eg dP/\i<=j/\j<=s.size/\2*(s.size-j)+2<=m/\m<=n/\R=pp s m 0 L j/\(ae bs')<=ae bs+(j-i)/\(ae bs)<=ae bs'/\bs'.take (ae bs)=bs/\fs'.take (ae bs)=fs /\
    gI (fun q=>bs'.getD q 0) (fun q=>fs'.getD q 0) (ae bs) (ae bs') e f l L) \/
   (St w' s R.j R.err R.pl p r bs' fs' eg dP/\R.err≠0/\R.j=s.size/\(ae bs')<=ae bs+(R.j-i)))
theorem adL{R:PR aD}{s:ByteArray}{j m:Nat}{L:aD}(hR:R=pp s m 0 L j)(hg:gt s j≠124)(hm:0<m):R=good j L:=by
 obtain⟨k,rfl⟩:∃k,m=k+1:=⟨m-1,by omega⟩
 rw[hR,OU,az hg]
theorem adK(s:ByteArray)(n i p r:Nat)(bs fs:List Nat)(vb vf:aq)(w:ay)(R:PR aD)(hR:R=aR s n i)(h:St w s i 0 0 p r bs fs vb vf)(hz:Nz s)(hs:s.size<=16)(hn:(ae bs)+s.size<168)(hi:i<=s.size)(hf:2*(s.size-i)+2<=n)(WV:∀(e1 e2:Bool) (f1 l1 f2 l2:Nat) (w:ay),aI aB 76 #[dQ e1 f1 l1,dQ e2 f2 l2] w fun x w'=>x=.returned (dQ (e1 || e2) (f1 ||| f2) (l1 ||| l2))/\Below w.heap.size w w')(NY:∀m,m<=n->∀(j:Nat) (bs' fs':List Nat) (eg dP:aq) (w':ay),j<=s.size->2*(s.size-j)+2<=m->ae bs'+s.size<184->i<=j->ae bs'<=ae bs+(j-i)->St w' s j 0 0 p r bs' fs' eg dP->aI aB 74 #[.pointer (some ⟨r,0,none⟩)] w' (qO (pp s m 1 aD.aX j) s j p r bs' fs' eg dP w')):aI aB 47 #[.pointer (some ⟨r,0,none⟩)] w (qO R s i p r bs fs vb vf w):=by
 have hr:=aE h.rd;have gF:r≠w.heap.size:=(by omega);have S0:ax (St (w.alloc cJ) s i 0 0 p r bs fs vb vf):=⟨by rw[aC,az gF];exact h.rd,h.ps.kp ((Kp.refl [] w).alloc _) (by simp),h.ap⟩;have Z0:ax ((w.alloc cJ).heap[w.heap.size]?=some cJ):=by show _=_;rw[aC,aA rfl]
 obtain⟨HS,HN,HZ,HF,ahP,HEI⟩:=DF h hn hz hf NY WV;have nf:∀k,w.heap.size<=k->k∉foot p vb vf:=fun k hk hm=>by have:=HS.o.ps.lt k hm;omega
 have NF:=aj nf;have hA:QS s i False (pp s n 1 aD.aX i):=(Ao s hz n).2.1 aD.aX i hi;have xn:=fun w' h'=>NY n (aH _) i bs fs vb vf w' hi hf (by omega) (aH _) (by omega) h'
 rw[aR]at hR;generalize pp s n 1 aD.aX i=A at *;have HA:=aj hA;have HR:=aj hR;have HC0:ax (∀w',St w' s i 0 0 p r bs fs vb vf->aI aB 74 #[.pointer (some ⟨r,0,none⟩)] w' (qO A s i p r bs fs vb vf w')):=xn;clear h NY WV hR hn hz nf hf hA xn;go_enter Tryz.func47,Tryz.ntmps47;go_wp2_with fail;refine MC (HC0.o _ (by exact S0.o)) ?_;rintro _ w1 ⟨e,f,l,kg,RV,nL,nM,rfl,CK,k1,Hy,Lf,Io⟩;have Ic:w.heap.size∉r::foot p vb vf:=by
  intro hm;simp at hm;rcases hm with e|e
  .omega
  .exact NF.o _ (aH _) e
 have z1:=k1.keep Z0.o Ic;have IG:=aE z1;have Cz:=aE CK.rd;have oN:=aj CK;have Z1:=aj z1;have K1:=aj (((Kp.refl (r::foot p vb vf) w).alloc cJ).trans k1 (fun y hy=>.inl hy));have oH:ax (∀g∈foot p nL nM,g∈foot p vb vf\/w.heap.size+1<=g):=fun g hg=>by rcases Hy g hg with e|e;exact .inl e;right;rw[aM]at e;exact e
 have PZ:=aj Lf;have Z8:=aj Io;clear CK k1 Hy Lf Io z1;go_wp2_with fail;have vR:r ∉ [w.heap.size]:=by simp;omega
 have Xt:r≠w1.heap.size:=(by omega);go_loopw [] (fun w'=>ahy R s n i p r w1.heap.size w.heap.size bs fs vb vf w w') (fun w'=>s.size-(intOf ((w'.cell? ⟨r,1,none⟩).getD eT)).toNat)
 case atStart =>
  have Mq:St (w1.alloc (cZ e f l)) s A.j A.err A.pl p r kg RV nL nM:=⟨by rw[aC,az (bY Cz)];exact oN.o.rd,oN.o.ps.kp ((Kp.refl [] _).alloc _) (by simp),oN.o.ap⟩;refine⟨e,f,l,kg,RV,nL,nM,by rw[aC,aA rfl],by rw[aC,az (bY IG)];exact Z1.o,K1.o.alloc _,(fun g hg=>by rcases oH.o g hg with e|e;exact .inl e;right;omega),(fun hm=>by have:=oN.o.ps.lt _ hm;omega),(fun hm=>by rcases oH.o _ hm with e|e;exact NF.o _ (aH _) e;omega),?_⟩;rcases HA.o with hA|hA
  .left;have hR:=HR.o;rw[az (by simp[hA.1])]at hR;rw[hA.1,hA.2.1]at Mq;obtain⟨p1,p2,p3,p4⟩:=Z8.o hA.1;exact⟨A.v,A.j,n,Mq,hA.2.2.1,hA.2.2.2.2,by have:=HF.o;have:=hA.2.2.1;omega,aH _,hR,PZ.o,p1,p2,p3,p4⟩
  .right;have hR:=HR.o;rw[aA hA.1]at hR;rw[hR];exact⟨Mq,hA.1,hA.2,PZ.o⟩
 case round =>
  obtain⟨e',f',l',bs',fs',eg,dP,tb,zb,kk,fr,ft,fz,eM⟩:=hrel;obtain⟨TB,ZB,KK,FR,FT,FZ⟩:=DF tb zb kk fr ft fz;clear tb zb kk fr ft fz;rcases eM with⟨L,j,m,st,vN,hj,hm,hmn,nH,dL,my,mK,If,l9⟩|⟨st,he,lY,hb⟩
  .have ST:=aj st;have jC:=aj nH;have qJ:=aj l9;have HB:=aj (And.intro dL (And.intro my (And.intro mK If)));clear st nH l9 dL my mK If;by_cases h0:gt s j=0
   ·(have lY:j=s.size:=by have:=(HZ.o j).1 h0;omega);have HG:=aj (adL jC.o (by omega) (by omega));subst lY;clear h0;go_wp2_with fail;refine(CO s p r 0 0 124 _ (by exact ST.o.rd)).mono ?_;rintro _ w2 ⟨rfl,n2,rfl⟩;go_upto_region 4 with fail;apply fD;refine rD rfl _ rfl (b:=w1.heap.size) (by exact TB.o) rfl ?_;refine rL rfl _ _ rfl (b:=w.heap.size) (by exact ZB.o) rfl rfl (by simp[dS]) ?_;intro w9 z9 k9 s9;go_wp2;refine cF (v:=dQ e' f' l') (kN (b:=w.heap.size) adx rfl z9) rfl ?_;refine⟨e',f',l',bs',fs',eg,dP,rfl,⟨k9.keep (by exact(by rw[HG.o];exact ST.o.rd)) vR,ST.o.ps.kp k9.kL (by intro k hk;simp at hk;subst hk;exact FZ.o),ST.o.ap⟩,(KK.o.trans k9.kL (by simp)),FR.o,(by rw[HG.o];exact HB.o.1),fun _=>⟨HB.o.2.1,HB.o.2.2.1,HB.o.2.2.2,by rw[HG.o];exact qJ.o⟩⟩
   ·(have aN:j<s.size:=by have:=(HZ.o j).2;omega);by_cases xz:gt s j=124
    ·(have Tm:(gt s j:Int)=124:=by omega);(obtain⟨m,rfl⟩:∃k,m=k+1:=⟨m-1,by omega⟩);(have sC:R=if (pp s m 1 aD.aX (j+1)).err≠0 then pp s m 1 aD.aX (j+1) else pp s m 0 (aD.alt L (pp s m 1 aD.aX (j+1)).v) (pp s m 1 aD.aX (j+1)).j:=(by rw[jC.o,OU,aA xz]));have hC:∀w',St w' s (j+1) 0 0 p r bs' fs' eg dP->aI aB 74 #[.pointer (some ⟨r,0,none⟩)] w' (qO (pp s m 1 aD.aX (j+1)) s (j+1) p r bs' fs' eg dP w') :=
      fun w' h'=>ahP.o m (by omega) (j+1) bs' fs' eg dP w' aN (by omega) (by have:=HN.o;have:=HB.o.1;omega) (by omega) (by have:=HB.o.1;omega) h'
     have Tl:QS s (j+1) False (pp s m 1 aD.aX (j+1)):=(Ao s HZ.o m).2.1 aD.aX (j+1) aN;generalize pp s m 1 aD.aX (j+1)=B at *;obtain⟨HSI,iX,HC,Nf⟩:=dH Tm sC hC Tl;clear h0 xz Tm sC hC Tl jC;go_wp2_with fail;refine(YS s j p r 0 0 124 _ (by exact ST.o.rd) aN hs HSI.o).mono ?_;rintro _ w2 ⟨rfl,jn,k2⟩;have ox:=k2.keep TB.o (by simp;omega);have Mw:=k2.keep ZB.o (by simp;omega);have fF:ax (Kp (r::foot p vb vf) w w2.drew):=(KK.o.trans k2 (by simp)).drew;have SD2:ax (St w2.drew s (j+1) 0 0 p r bs' fs' eg dP):=⟨jn,ST.o.ps.kp k2.drew (by intro k hk;simp at hk;subst hk;exact ST.o.ap),ST.o.ap⟩;(have MS:ax ((wr.cell? ⟨r,1,none⟩).getD eT=.int .i64 j):=by show _=_;rw[aF ST.o.rd];rfl);obtain⟨⟨a0,a1,a2,a3,a4,a5,a6,a7,a8⟩,_⟩:=gC ox;have wW:ax (w2.drew.heap[w1.heap.size]?=some (cZ e' f' l')):=ox;have EX:ax (w2.drew.heap[w.heap.size]?=some cJ):=Mw;have lT:w1.heap.size<w2.drew.heap.size:=aE ox;have lZ:w.heap.size<w2.drew.heap.size:=aE Mw;(have Sm:w1.heap.size∉r::foot p eg dP:=by intro hm;simp at hm;rcases hm with e|e;omega;exact FT.o e);(have aeG:w.heap.size∉r::foot p eg dP:=by intro hm;simp at hm;rcases hm with e|e;omega;exact FZ.o e);have Qi:=aj Sm;have HZN:=aj aeG;clear ox jn Mw Sm aeG k2;go_wp2_with fail;go_region_with (first|(go_at_call 74;refine MC (HC.o _ (by exact SD2.o)) ?_;rintro _ w3 ⟨e2,f2,l2,zF,zJ,uR,uS,rfl,O4,k3,gA,yO,Td⟩;obtain⟨⟨b0,b1,b2,b3,b4,b5,b6,b7,b8⟩,_⟩:=gC (k3.keep wW.o Qi.o);have wT:=aj O4;have wY:=aj (k3.keep wW.o Qi.o);have EY:=aj (k3.keep EX.o HZN.o);have vj:=aj (fF.o.trans k3 (fun y hy=>by simp only[gH]at hy;rcases hy with e|e;exact .inl (by simp[e]);rcases FR.o y e with e|e;exact .inl (by simp[e]);exact .inr e));have sY:ax (∀g∈foot p uR uS,g∈foot p vb vf\/w.heap.size<=g):=(fun g hg=>by rcases gA g hg with e|e;exact FR.o g e;right;omega);have Jy:ax (w1.heap.size∉foot p uR uS):=(fun hg=>by rcases gA _ hg with e|e;exact FT.o e;omega);have UU:ax (w.heap.size∉foot p uR uS):=(fun hg=>by rcases gA _ hg with e|e;exact FZ.o e;omega);have Gt:=aj yO;have AX:=aj Td;clear O4 k3 gA yO Td)|(go_at_call 76;refine MC (HEI.o e' e2 f' l' f2 l2 _) ?_;rintro _ w4 ⟨rfl,Kj⟩;obtain⟨⟨d0,d1,d2,d3,d4,d5,d6,d7,d8⟩,g0,g1,g2,g3,g4,g5,g6,g7,g8⟩:=gC (bV Kj wY.o);have yo:=aj (bV Kj wT.o.rd);have EL:=aj (bV Kj wY.o);have EZ:=aj (bV Kj EY.o);have vx:=aj (wT.o.ps.kp ((Kp.refl [] _).below Kj) (by simp));have Ep:=aj (vj.o.below Kj);clear Kj))
     all_goals
      go_wp2;have kq:=(Kp.refl [w1.heap.size] w4).mQ (b:=w1.heap.size) (by simp) (.bool (e' || e2)) (.int .u64 (wd (f' ||| f2) 0)) (.int .u64 (wd (f' ||| f2) 1)) (.int .u64 (wd (f' ||| f2) 2)) (.int .u64 (wd (f' ||| f2) 3)) (.int .u64 (wd (l' ||| l2) 0)) (.int .u64 (wd (l' ||| l2) 1)) (.int .u64 (wd (l' ||| l2) 2)) (.int .u64 (wd (l' ||| l2) 3));have rq:=kq.keep yo.o (by simp;omega);refine⟨⟨e' || e2,f' ||| f2,l' ||| l2,zF,zJ,uR,uS,?_,kq.keep EZ.o (by simp;omega),Ep.o.trans kq (by simp;omega),sY.o,Jy.o,UU.o,?_⟩,?_⟩
      .simp only[aQ,EL.o];simp[eD]
      .have PF:=vx.o.kp kq (by intro k hk;simp at hk;subst hk;exact Jy.o);have yO:=Gt.o;have dL:=HB.o.1;rcases Nf.o with⟨q1,q2,q3,_,q4⟩|⟨q1,q2⟩
       .left;have hR:=iX.o;rw[az (by simp[q1])]at hR;rw[q1,q2]at rq;obtain⟨r1,r2,r3,r4⟩:=AX.o q1;refine⟨aD.alt L B.v,B.j,m,⟨rq,PF,wT.o.ap⟩,by omega,q4,by omega,by omega,hR,by omega,by have:=HB.o.2.1;omega,?_,?_,?_⟩
        .rw[YR r2 HB.o.2.1];exact HB.o.2.2.1
        .rw[YR r3 HB.o.2.1];exact HB.o.2.2.2
        .exact gI.either (gI.longer qJ.o ST.o.ps.len r2 r3) r4 HB.o.2.1 r1
       .right;have hR:=iX.o;rw[aA q1]at hR;rw[hR];exact⟨⟨rq,PF,wT.o.ap⟩,q1,q2,by omega⟩
      .rw[MS.o,aF rq];rcases Nf.o with h|h<;>simp[intOf]<;>omega
    .have HG:=aj (adL jC.o xz (by omega));have Tm:(gt s j:Int)≠124:=(by omega);have HSI:=aj Tm;clear h0 xz Tm;go_wp2_with fail;refine(acD s j p r 0 0 124 _ (by exact ST.o.rd) aN hs HSI.o).mono ?_;rintro _ w2 ⟨rfl,n2,rfl⟩;go_upto_region 4 with fail;apply fD;refine rD rfl _ rfl (b:=w1.heap.size) (by exact TB.o) rfl ?_;refine rL rfl _ _ rfl (b:=w.heap.size) (by exact ZB.o) rfl rfl (by simp[dS]) ?_;intro w9 z9 k9 s9;go_wp2;refine cF (v:=dQ e' f' l') (kN (b:=w.heap.size) adx rfl z9) rfl ?_;refine⟨e',f',l',bs',fs',eg,dP,rfl,⟨k9.keep (by exact(by rw[HG.o];exact ST.o.rd)) vR,ST.o.ps.kp k9.kL (by intro k hk;simp at hk;subst hk;exact FZ.o),ST.o.ap⟩,(KK.o.trans k9.kL (by simp)),FR.o,(by rw[HG.o];exact HB.o.1),fun _=>⟨HB.o.2.1,HB.o.2.2.1,HB.o.2.2.2,by rw[HG.o];exact qJ.o⟩⟩
  .have ST:=aj st;obtain⟨HE,HJ,HB⟩:=cR he lY hb;clear st he lY hb;go_wp2_with fail;refine(CO s p r R.err R.pl 124 _ (by rw[<-HJ.o];exact ST.o.rd)).mono ?_;rintro _ w2 ⟨rfl,n2,rfl⟩;go_upto_region 4 with fail;apply fD;refine rD rfl _ rfl (b:=w1.heap.size) (by exact TB.o) rfl ?_;refine rL rfl _ _ rfl (b:=w.heap.size) (by exact ZB.o) rfl rfl (by simp[dS]) ?_;intro w9 z9 k9 s9;go_wp2;refine cF (v:=dQ e' f' l') (kN (b:=w.heap.size) adx rfl z9) rfl ?_;refine⟨e',f',l',bs',fs',eg,dP,rfl,⟨k9.keep (by exact ST.o.rd) vR,ST.o.ps.kp k9.kL (by intro k hk;simp at hk;subst hk;exact FZ.o),ST.o.ap⟩,(KK.o.trans k9.kL (by simp)),FR.o,HB.o,fun hh=>absurd hh HE.o⟩
theorem aiT(s:ByteArray)(i p r:Nat)(bs fs:List Nat)(vb vf:aq)(w:ay)(acc:aD)(B R:PR aD)(h:St w s i 0 0 p r bs fs vb vf)(hi:i<s.size)(hs:s.size<=16)(hz:Nz s)(hc:gt s i=40)(halt:∀w',St w' s (i+1) 0 0 p r bs fs vb vf->aI aB 47 #[.pointer (some ⟨r,0,none⟩)] w' (qO B s (i+1) p r bs fs vb vf w'))(hB:(B.err=0/\B.pl=0/\i+1<=B.j/\B.j<=s.size/\(gt s B.j=0\/gt s B.j=41))\/(B.err≠0/\B.j=s.size))(hR:R=if B.err≠0 then B else if gt s B.j=0 then de s 4 s.size acc else good (B.j+1) B.v):aI aB 114 #[.pointer (some ⟨r,0,none⟩)] w (qO R s i p r bs fs vb vf w):=by
 have q1:((gt s i:Int) == 40)=true:=by simp;omega
 obtain⟨HS,oI,HB,HR,HZ⟩:=jd h halt hB hR hz;have hr:=aE h.rd;have gF:r≠w.heap.size:=(by omega);have qC:(w.alloc cJ).heap[r]?=some (dF s i 0 0 p):=by rw[aC,az gF];exact h.rd
 have c1:w.cell? ⟨r,1,none⟩=some (.int .i64 i):=by rw[aF h.rd];rfl
 have pP:=aj qC;have Z0:ax ((w.alloc cJ).heap[w.heap.size]?=some cJ):=by show _=_;rw[aC,aA rfl]
 have nf:∀k,w.heap.size<=k->k∉foot p vb vf:=fun k hk hm=>by have:=HS.o.ps.lt k hm;omega
 have NF:=aj nf;clear h qC nf hc halt hB hR hz;go_enter Tryz.func114,Tryz.ntmps114;go_wp2_with fail;refine(xK s i p r 0 0 _ (by exact pP.o) hi hs).mono ?_;rintro _ w1 ⟨rfl,lJ,k1⟩;have Z1:=aj (k1.keep Z0.o (by simp;omega));have S1:ax (St w1 s (i+1) 0 0 p r bs fs vb vf):=⟨lJ,HS.o.ps.kp (((Kp.refl [r] w).alloc _).trans k1 (by simp)) (by intro k hk;simp at hk;subst hk;exact HS.o.ap),HS.o.ap⟩;have K1:=aj (((Kp.refl (r::foot p vb vf) w).alloc cJ).trans k1 (by simp));clear lJ k1;go_wp2_with fail;refine MC (oI.o _ (by exact S1.o)) ?_;rintro _ w2 ⟨e,f,l,zF,zJ,uR,uS,rfl,Jd,k2,gw,DH,uG⟩;have Ic:w.heap.size∉r::foot p vb vf:=by
  intro hm;simp at hm;rcases hm with e|e
  .omega
  .exact NF.o _ (aH _) e
 have l1:=aE Z1.o;have z2:=k2.keep Z1.o Ic;have yV:=aE z2;have OA:=aE Jd.rd;have Z2:=aj z2;have qP:=aj Jd;have K2:=aj (K1.o.trans k2 (fun y hy=>.inl hy));have jN:ax (∀g∈foot p uR uS,g∈foot p vb vf\/w.heap.size<=g):=fun g hg=>by rcases gw g hg with e|e;exact .inl e;right;omega
 have Zy:ax (w.heap.size∉foot p uR uS):=fun hm=>by rcases gw _ hm with e|e;exact NF.o _ (aH _) e;omega
 have ZS:=aj DH;have th:=aj uG;have RA:ax ((w2.alloc (cZ e f l)).heap[r]?=some (dF s B.j B.err B.pl p)):=by show _=_;rw[aC,az (bY OA)];exact qP.o.rd
 have ZA:ax ((w2.alloc (cZ e f l)).heap[w.heap.size]?=some cJ):=by show _=_;rw[aC,az (bY yV)];exact Z2.o
 have TA:ax ((w2.alloc (cZ e f l)).heap[w2.heap.size]?=some (cZ e f l)):=by show _=_;rw[aC,aA rfl]
 have vR:r ∉ [w.heap.size]:=by simp;omega
 clear Jd k2 gw DH uG z2;go_wp2_with fail;rcases HB.o with⟨b1,b2,b3,b4,b5⟩|⟨b1,b2⟩
 .rcases b5 with g|g
  ·(have lY:B.j=s.size:=by have:=(HZ.o B.j).1 g;omega);(have AZ:ax (R=de s 4 s.size acc):=by show R=_;rw[HR.o,az (by simp[b1]),aA g]);obtain⟨HJS,nU,mG⟩:=cR lY b1 b2;clear b1 b2 g lY;refine(YE s p r 0 41 _ (by rw[<-HJS.o];have:=RA.o;rw[nU.o,mG.o]at this;exact this)).mono ?_;rintro _ w3 ⟨rfl,jy,k3⟩;have R3:=aj jy;have T3:=aj (k3.keep TA.o (by simp;omega));have Z3:=aj (k3.keep ZA.o (by simp;omega));have K3:=aj ((K2.o.alloc (cZ e f l)).trans k3 (by simp));have P3:=aj ((qP.o.ps.kp ((Kp.refl [] w2).alloc (cZ e f l)) (by simp)).kp k3 (by intro k hk;simp at hk;subst hk;exact qP.o.ap));clear jy k3;go_upto_region 8 with fail;apply fD;refine rD rfl _ rfl (b:=w2.heap.size) (by exact T3.o) rfl ?_;refine rL rfl _ _ rfl (b:=w.heap.size) (by exact Z3.o) rfl rfl (by simp[dS]) ?_;intro w9 z9 k9 s9;go_wp2;refine cF (v:=dQ e f l) (kN (b:=w.heap.size) G5 rfl z9) rfl ?_;refine⟨e,f,l,zF,zJ,uR,uS,rfl,⟨k9.keep (by rw[AZ.o];exact R3.o) vR,P3.o.kp k9 (by intro k hk;simp at hk;subst hk;exact Zy.o),qP.o.ap⟩,K3.o.trans k9 (by simp),jN.o,?_,fun hh=>absurd hh (by rw[AZ.o];simp[de])⟩;rw[AZ.o];have:=ZS.o;simp[de];omega
  ·(have aN:B.j<s.size:=by have:=(HZ.o B.j).2;omega);(have AZ:ax (R=good (B.j+1) B.v):=by show R=_;rw[HR.o,az (by simp[b1]),az (by omega)]);(have qx:(gt s B.j:Int)=41:=by omega);obtain⟨JB,nU,mG⟩:=cR qx b1 b2;clear b1 b2 g qx;refine(YF s B.j p r 0 0 41 _ (by have:=RA.o;rw[nU.o,mG.o]at this;exact this) aN hs JB.o).mono ?_;rintro _ w3 ⟨rfl,jy,k3⟩;have R3:=aj jy;have T3:=aj (k3.keep TA.o (by simp;omega));have Z3:=aj (k3.keep ZA.o (by simp;omega));have K3:=aj ((K2.o.alloc (cZ e f l)).trans k3 (by simp));have P3:=aj ((qP.o.ps.kp ((Kp.refl [] w2).alloc (cZ e f l)) (by simp)).kp k3 (by intro k hk;simp at hk;subst hk;exact qP.o.ap));clear jy k3;go_upto_region 8 with fail;apply fD;refine rD rfl _ rfl (b:=w2.heap.size) (by exact T3.o) rfl ?_;refine rL rfl _ _ rfl (b:=w.heap.size) (by exact Z3.o) rfl rfl (by simp[dS]) ?_;intro w9 z9 k9 s9;go_wp2;refine cF (v:=dQ e f l) (kN (b:=w.heap.size) G5 rfl z9) rfl ?_;refine⟨e,f,l,zF,zJ,uR,uS,rfl,⟨k9.keep (by rw[AZ.o];exact R3.o) vR,P3.o.kp k9 (by intro k hk;simp at hk;subst hk;exact Zy.o),qP.o.ap⟩,K3.o.trans k9 (by simp),jN.o,?_,fun _=>by rw[AZ.o];exact th.o nU.o⟩;rw[AZ.o];have:=ZS.o;simp[good];omega
 .have AZ:ax (R=B):=by show R=_;rw[HR.o,aA b1]
  have nU:=aj b1;have mG:=aj b2;clear b1 b2;refine(YD s p r B.err B.pl 41 _ (by rw[<-mG.o];exact RA.o) nU.o).mono ?_;rintro _ w3 ⟨rfl,jy,k3⟩;have R3:=aj jy;have T3:=aj (k3.keep TA.o (by simp;omega));have Z3:=aj (k3.keep ZA.o (by simp;omega));have K3:=aj ((K2.o.alloc (cZ e f l)).trans k3 (by simp));have P3:=aj ((qP.o.ps.kp ((Kp.refl [] w2).alloc (cZ e f l)) (by simp)).kp k3 (by intro k hk;simp at hk;subst hk;exact qP.o.ap));clear jy k3;go_upto_region 8 with fail;apply fD;refine rD rfl _ rfl (b:=w2.heap.size) (by exact T3.o) rfl ?_;refine rL rfl _ _ rfl (b:=w.heap.size) (by exact Z3.o) rfl rfl (by simp[dS]) ?_;intro w9 z9 k9 s9;go_wp2;refine cF (v:=dQ e f l) (kN (b:=w.heap.size) G5 rfl z9) rfl ?_;refine⟨e,f,l,zF,zJ,uR,uS,rfl,⟨k9.keep (by rw[AZ.o,mG.o];exact R3.o) vR,P3.o.kp k9 (by intro k hk;simp at hk;subst hk;exact Zy.o),qP.o.ap⟩,K3.o.trans k9 (by simp),jN.o,?_,fun hh=>absurd (by rw[AZ.o]at hh;exact hh) nU.o⟩;rw[AZ.o];have:=ZS.o;omega
theorem aiQ(s:ByteArray)(i p r:Nat)(bs fs:List Nat)(vb vf:aq)(w:ay)(h:St w s i 0 0 p r bs fs vb vf)(hi:i<s.size)(hs:s.size<=16)(hn:(ae bs)<200)(hc:gt s i=46):aI aB 114 #[.pointer (some ⟨r,0,none⟩)] w (qO (good (i+1) (aD.set (kZ (1 <<< 10)))) s i p r bs fs vb vf w):=by
 have q1:((gt s i:Int) == 40)=false:=by simp;omega
 have q2:((gt s i:Int) == 91)=false:=by simp;omega
 have q3:((gt s i:Int) == 46)=true:=by simp;omega
 have HS:=aj h;have hr:=aE h.rd;have gF:r≠w.heap.size:=(by omega);have qC:(w.alloc cJ).heap[r]?=some (dF s i 0 0 p):=by rw[aC,az gF];exact h.rd
 have c1:w.cell? ⟨r,1,none⟩=some (.int .i64 i):=by rw[aF h.rd];rfl
 have pP:=aj qC;have Z0:ax ((w.alloc cJ).heap[w.heap.size]?=some cJ):=by show _=_;rw[aC,aA rfl]
 have nf:∀k,w.heap.size<=k->k∉foot p vb vf:=fun k hk hm=>by have:=HS.o.ps.lt k hm;omega
 have NF:=aj nf;clear h qC nf hc;go_enter Tryz.func114,Tryz.ntmps114;go_wp2_with fail;refine(xK s i p r 0 0 _ (by exact pP.o) hi hs).mono ?_;rintro _ w1 ⟨rfl,lJ,k1⟩;have Bj:=aj lJ;have c2:w1.cell? ⟨r,2,none⟩=some (.pointer (some ⟨p,0,none⟩)):=by rw[aF lJ];rfl
 have Z1:=aj (k1.keep Z0.o (by simp;omega));have P1:ax (dN w1 p bs fs vb vf):=HS.o.ps.kp (((Kp.refl [r] w).alloc _).trans k1 (by simp)) (by intro k hk;simp at hk;subst hk;exact HS.o.ap);have K1:=aj (((Kp.refl (r::foot p vb vf) w).alloc cJ).trans k1 (by simp));have Cz:=aE lJ;clear lJ k1;go_upto_region 12 with fail;have sD:∀w':ay,w'.heap[r]?=some (dF s (i+1) 0 0 p)->w'.cell? ⟨r,2,none⟩=some (.pointer (some ⟨p,0,none⟩)):=fun w' h'=>by rw[aF h'];rfl
 have tE:w1.drew.heap[r]?=some (dF s (i+1) 0 0 p):=Bj.o;have EW:ax (w1.drew.heap[w.heap.size]?=some cJ):=Z1.o;have EB:ax (dN w1.drew p bs fs vb vf):=P1.o.kp ((Kp.refl [] w1).drew) (by simp);have En:=aj K1.o.drew;clear c2;go_region_held3 (fun w':ay=>w'.heap[r]?=some (dF s (i+1) 0 0 p))
  (first|with_reducible exact R3|with_reducible exact R2b|with_reducible exact R2|with_reducible exact tE|(simp only[aQ,az gF];with_reducible exact R3))
  (first|(go_at_call 53;refine(L0 10 _ (by decide)).mono ?_;rintro _ w2 ⟨rfl,b2⟩;have R2:=bV b2 tE;have Z2:=aj (bV b2 EW.o);have P2:=aj (EB.o.kp ((Kp.refl [] _).below b2) (by simp));have K2:=aj (En.o.below b2);clear b2)|(go_at_call 121;refine(Yh (1 <<< 10) _).mono ?_;rintro _ w2b ⟨rfl,b3⟩;have R2b:=bV b3 R2;have Z2b:=aj (bV b3 Z2.o);have P2b:=aj (P2.o.kp ((Kp.refl [] _).below b3) (by simp));have K2b:=aj (K2.o.below b3);clear b3)|(go_at_call 119;refine(Q9 p (kZ (1 <<< 10)) bs fs vb vf _ (by exact P2b.o) hn).mono ?_;rintro _ w3 ⟨rfl,eg,dP,P3,k3,gA⟩;have R3:=k3.keep R2b HS.o.ap;have z3:=k3.keep Z2b.o (NF.o _ (aH _));obtain⟨⟨oy,oz,oB,oC,sR,sS,sU,sV,sX⟩,pF,pG,pH,pI,uU,uV,uW,uX,uY⟩:=gC z3;have Z3:=aj z3;have QH:=aj P3;have K3:=aj (K2b.o.trans k3 (fun y hy=>.inl (by simp[hy])));have FR:=aj gA;have l2:=aE Z2b.o;have l3:=aE z3;have oH:ax (∀g∈foot p eg dP,g∈foot p vb vf\/w.heap.size<=g):=(fun g hg=>by rcases gA g hg with e|e;exact .inl e;right;omega);clear z3 P3 gA))
 go_wp2;refine cF (v:=dQ false (1 <<< (ae bs)) (1 <<< (ae bs))) (kN (b:=w.heap.size) G5 rfl (by simp only[aQ,Z3.o];simp[eD])) rfl ?_;refine⟨false,1 <<< (ae bs),1 <<< (ae bs),bs ++ [kZ (1 <<< 10)],fs ++ [0],eg,dP,rfl,⟨?_,?_,?_⟩,?_,oH.o,?_,fun _=>⟨?_,?_,?_,?_⟩⟩
 .simp only[aQ,az gF];exact R3
 .exact QH.o.kp ((Kp.refl [w.heap.size] w3).mQ (by simp) _ _ _ _ _ _ _ _ _) (by intro k hk;simp at hk;subst hk;exact fun hm=>by rcases FR.o _ hm with e|e;exact NF.o _ (aH _) e;omega)
 .intro hm;rcases oH.o _ hm with e|e
  .exact HS.o.ap e
  .omega
 .exact K3.o.mQ (.inr (aH _)) _ _ _ _ _ _ _ _ _
 .simp[good]
 .simp
 .simp
 .rw[<-HS.o.ps.len];simp
 .exact Yf bs fs (kZ (1 <<< 10)) HS.o.ps.len
theorem aiO(s:ByteArray)(i p r:Nat)(bs fs:List Nat)(vb vf:aq)(w:ay)(h:St w s i 0 0 p r bs fs vb vf)(hi:i<s.size)(hs:s.size<=16)(acc:aD)(hc:gt s i=42\/gt s i=43\/gt s i=63\/gt s i=93):aI aB 114 #[.pointer (some ⟨r,0,none⟩)] w (qO (de s 5 i acc) s i p r bs fs vb vf w):=by
 have HS:=aj h;have hr:=aE h.rd;have gF:r≠w.heap.size:=(by omega);have qC:(w.alloc cJ).heap[r]?=some (dF s i 0 0 p):=by rw[aC,az gF];exact h.rd
 have c1:w.cell? ⟨r,1,none⟩=some (.int .i64 i):=by rw[aF h.rd];rfl
 have pP:=aj qC;have Z0:ax ((w.alloc cJ).heap[w.heap.size]?=some cJ):=by show _=_;rw[aC,aA rfl]
 have nf:∀k,w.heap.size<=k->k∉foot p vb vf:=fun k hk hm=>by have:=HS.o.ps.lt k hm;omega
 have NF:=aj nf;clear h qC nf;go_enter Tryz.func114,Tryz.ntmps114;go_wp2_with fail;refine(xK s i p r 0 0 _ (by exact pP.o) hi hs).mono ?_;rintro _ w1 ⟨rfl,lJ,k1⟩;have Bj:=aj lJ;have Z1:=aj (k1.keep Z0.o (by simp;omega));have P1:ax (dN w1 p bs fs vb vf):=HS.o.ps.kp (((Kp.refl [r] w).alloc _).trans k1 (by simp)) (by intro k hk;simp at hk;subst hk;exact HS.o.ap);have K1:=aj (((Kp.refl (r::foot p vb vf) w).alloc cJ).trans k1 (by simp));clear lJ k1;generalize gt s i=c at *;rcases hc with rfl|rfl|rfl|rfl
 all_goals
  go_wp2_with fail;refine(NA s (i+1) p r 0 5 i _ (by exact Bj.o)).mono ?_;rintro _ w2 ⟨rfl,jn,k2⟩;have R2:=aj jn;have Z2:=aj (k2.keep Z1.o (by simp;omega));have P2:=aj (P1.o.kp k2 (by intro k hk;simp at hk;subst hk;exact HS.o.ap));have K2:=aj (K1.o.trans k2 (by simp));clear jn k2;go_wp2_with fail;refine(agc _).mono ?_;rintro _ w3 ⟨rfl,b3⟩;have R3:=bV b3 R2.o;have z3:=bV b3 Z2.o;have P3:=P2.o.kp ((Kp.refl [] _).below b3) (by simp);have K3:=aj (K2.o.below b3);obtain⟨⟨oy,oz,oB,oC,sR,sS,sU,sV,sX⟩,pF,pG,pH,pI,uU,uV,uW,uX,uY⟩:=gC z3;obtain⟨Z3,R3H,QH⟩:=cR z3 R3 P3;clear b3 z3 R3 P3;go_wp2;refine cF (v:=dQ true 0 0) (kN (b:=w.heap.size) G5 rfl (by simp only[aQ,Z3.o];simp[eD])) rfl ?_;refine⟨true,0,0,bs,fs,vb,vf,rfl,⟨?_,?_,HS.o.ap⟩,?_,fun g hg=>.inl hg,by simp[de],fun hh=>absurd hh (by simp[de])⟩
  .simp only[aQ,az gF];exact R3H.o
  .exact QH.o.kp ((Kp.refl [w.heap.size] w3).mQ (by simp) _ _ _ _ _ _ _ _ _) (by intro k hk;simp at hk;subst hk;exact NF.o _ (aH _))
  .exact K3.o.mQ (.inr (aH _)) _ _ _ _ _ _ _ _ _
theorem aiR(s:ByteArray)(i p r:Nat)(bs fs:List Nat)(vb vf:aq)(w:ay)(h:St w s i 0 0 p r bs fs vb vf)(hi:i<s.size)(hs:s.size<=16)(hn:(ae bs)<200)(hc:gt s i=92)(Ce:i+1<s.size):aI aB 114 #[.pointer (some ⟨r,0,none⟩)] w (qO (good (i+2) (aD.set (1 <<< gt s (i+1)))) s i p r bs fs vb vf w):=by
 have q1:((gt s i:Int) == 40)=false:=by simp;omega
 have q2:((gt s i:Int) == 91)=false:=by simp;omega
 have q3:((gt s i:Int) == 46)=false:=by simp;omega
 have q4:((gt s i:Int) == 92)=true:=by simp;omega
 have HS:=aj h;have hr:=aE h.rd;have gF:r≠w.heap.size:=(by omega);have qC:(w.alloc cJ).heap[r]?=some (dF s i 0 0 p):=by rw[aC,az gF];exact h.rd
 have c1:w.cell? ⟨r,1,none⟩=some (.int .i64 i):=by rw[aF h.rd];rfl
 have pP:=aj qC;have Z0:ax ((w.alloc cJ).heap[w.heap.size]?=some cJ):=by show _=_;rw[aC,aA rfl]
 have nf:∀k,w.heap.size<=k->k∉foot p vb vf:=fun k hk hm=>by have:=HS.o.ps.lt k hm;omega
 have NF:=aj nf;clear h qC nf hc;go_enter Tryz.func114,Tryz.ntmps114;go_wp2_with fail;refine(xK s i p r 0 0 _ (by exact pP.o) hi hs).mono ?_;rintro _ w1 ⟨rfl,lJ,k1⟩;have Bj:=aj lJ;have c2:w1.cell? ⟨r,2,none⟩=some (.pointer (some ⟨p,0,none⟩)):=by rw[aF lJ];rfl
 have Z1:=aj (k1.keep Z0.o (by simp;omega));have P1:ax (dN w1 p bs fs vb vf):=HS.o.ps.kp (((Kp.refl [r] w).alloc _).trans k1 (by simp)) (by intro k hk;simp at hk;subst hk;exact HS.o.ap);have K1:=aj (((Kp.refl (r::foot p vb vf) w).alloc cJ).trans k1 (by simp));have Cz:=aE lJ;clear lJ k1;go_upto_region 14 with fail;have tE:w1.drew.heap[r]?=some (dF s (i+1) 0 0 p):=Bj.o;have Py:w1.drew.cell? ⟨r,2,none⟩=some (.pointer (some ⟨p,0,none⟩)):=by rw[aF tE];rfl
 have EW:ax (w1.drew.heap[w.heap.size]?=some cJ):=Z1.o;have EB:ax (dN w1.drew p bs fs vb vf):=P1.o.kp ((Kp.refl [] w1).drew) (by simp);have En:=aj K1.o.drew;have QK:=aj tE;have So:w.heap.size ∉ [r]:=by simp;omega
 clear c2 tE;go_region_held3 (fun w':ay=>w'.cell? ⟨r,2,none⟩=some (.pointer (some ⟨p,0,none⟩)))
  (first|with_reducible exact C4|with_reducible exact C3|with_reducible exact C2|with_reducible exact Py|(rw[aF (R5 _ _ _ _ _ _ _ _ _)];rfl))
  (first|(go_at_call 116;refine(xK s (i+1) p r 0 0 _ (by exact QK.o) Ce hs).mono ?_;rintro _ w2 ⟨rfl,jn,k2⟩;have C2:w2.cell? ⟨r,2,none⟩=some (.pointer (some ⟨p,0,none⟩)):=(by rw[aF jn];rfl);have R2:=aj jn;have Z2:=aj (k2.keep EW.o So);have P2:=aj (EB.o.kp k2 (by intro k hk;simp at hk;subst hk;exact HS.o.ap));have K2:=aj (En.o.trans k2 (by simp));clear jn k2)|(go_at_call 53;refine(L0 (gt s (i+1)) _ (kj s (i+1))).mono ?_;rintro _ w3 ⟨rfl,b3⟩;have r3:=bV b3 R2.o;have C3:w3.cell? ⟨r,2,none⟩=some (.pointer (some ⟨p,0,none⟩)):=(by rw[aF r3];rfl);have R3:=aj r3;have Z3:=aj (bV b3 Z2.o);have P3:=aj (P2.o.kp ((Kp.refl [] _).below b3) (by simp));have K3:=aj (K2.o.below b3);clear b3 r3)|(go_at_call 119;refine(Q9 p (1 <<< gt s (i+1)) bs fs vb vf _ (by exact P3.o) hn).mono ?_;rintro _ w4 ⟨rfl,eg,dP,P4,k4,sx⟩;have R4:=k4.keep R3.o HS.o.ap;have C4:w4.cell? ⟨r,2,none⟩=some (.pointer (some ⟨p,0,none⟩)):=(by rw[aF R4];rfl);have z4:=k4.keep Z3.o (NF.o _ (aH _));obtain⟨⟨oy,oz,oB,oC,sR,sS,sU,sV,sX⟩,pF,pG,pH,pI,uU,uV,uW,uX,uY⟩:=gC z4;have R5:∀v0 v1 v2 v3 v4 v5 v6 v7 v8:aq,(((((((((w4.setCell ⟨w.heap.size,0,none⟩ v0).setCell ⟨w.heap.size,1,none⟩ v1).setCell ⟨w.heap.size,2,none⟩ v2).setCell ⟨w.heap.size,3,none⟩ v3).setCell ⟨w.heap.size,4,none⟩ v4).setCell ⟨w.heap.size,5,none⟩ v5).setCell ⟨w.heap.size,6,none⟩ v6).setCell ⟨w.heap.size,7,none⟩ v7).setCell ⟨w.heap.size,8,none⟩ v8).heap[r]?=some (dF s (i+2) 0 0 p):=(fun _ _ _ _ _ _ _ _ _=>by simp only[aQ,az gF];exact R4);have Z4:=aj z4;have vx:=aj P4;have K4:=aj (K3.o.trans k4 (fun y hy=>.inl (by simp[hy])));have FR:=aj sx;have l3:=aE Z3.o;have oH:ax (∀g∈foot p eg dP,g∈foot p vb vf\/w.heap.size<=g):=(fun g hg=>by rcases sx g hg with e|e;exact .inl e;right;omega);clear z4 P4 sx R4))
 go_wp2;refine cF (v:=dQ false (1 <<< (ae bs)) (1 <<< (ae bs))) (kN (b:=w.heap.size) G5 rfl (by simp only[aQ,Z4.o];simp[eD])) rfl ?_;refine⟨false,1 <<< (ae bs),1 <<< (ae bs),bs ++ [1 <<< gt s (i+1)],fs ++ [0],eg,dP,rfl,⟨?_,?_,?_⟩,?_,oH.o,?_,fun _=>⟨?_,?_,?_,?_⟩⟩
 .exact R5 _ _ _ _ _ _ _ _ _
 .exact vx.o.kp ((Kp.refl [w.heap.size] w4).mQ (by simp) _ _ _ _ _ _ _ _ _) (by intro k hk;simp at hk;subst hk;exact fun hm=>by rcases FR.o _ hm with e|e;exact NF.o _ (aH _) e;omega)
 .intro hm;rcases oH.o _ hm with e|e
  .exact HS.o.ap e
  .omega
 .exact K4.o.mQ (.inr (aH _)) _ _ _ _ _ _ _ _ _
 .simp[good]
 .simp
 .simp
 .rw[<-HS.o.ps.len];simp
 .exact Yf bs fs (1 <<< gt s (i+1)) HS.o.ps.len
theorem aiS(s:ByteArray)(i p r:Nat)(bs fs:List Nat)(vb vf:aq)(w:ay)(h:St w s i 0 0 p r bs fs vb vf)(hi:i<s.size)(hs:s.size<=16)(hn:(ae bs)<200)(acc:aD)(hc:gt s i=92)(Ce:i+1=s.size):aI aB 114 #[.pointer (some ⟨r,0,none⟩)] w (qO (de s 4 s.size acc) s i p r bs fs vb vf w):=by
 have q1:((gt s i:Int) == 40)=false:=by simp;omega
 have q2:((gt s i:Int) == 91)=false:=by simp;omega
 have q3:((gt s i:Int) == 46)=false:=by simp;omega
 have q4:((gt s i:Int) == 92)=true:=by simp;omega
 have HE:=aj Ce;have HS:=aj h;have hr:=aE h.rd;have gF:r≠w.heap.size:=(by omega);have qC:(w.alloc cJ).heap[r]?=some (dF s i 0 0 p):=by rw[aC,az gF];exact h.rd
 have c1:w.cell? ⟨r,1,none⟩=some (.int .i64 i):=by rw[aF h.rd];rfl
 have pP:=aj qC;have Z0:ax ((w.alloc cJ).heap[w.heap.size]?=some cJ):=by show _=_;rw[aC,aA rfl]
 have nf:∀k,w.heap.size<=k->k∉foot p vb vf:=fun k hk hm=>by have:=HS.o.ps.lt k hm;omega
 have NF:=aj nf;clear h qC nf hc Ce;go_enter Tryz.func114,Tryz.ntmps114;go_wp2_with fail;refine(xK s i p r 0 0 _ (by exact pP.o) hi hs).mono ?_;rintro _ w1 ⟨rfl,lJ,k1⟩;have Bj:=aj lJ;have c2:w1.cell? ⟨r,2,none⟩=some (.pointer (some ⟨p,0,none⟩)):=by rw[aF lJ];rfl
 have Z1:=aj (k1.keep Z0.o (by simp;omega));have P1:ax (dN w1 p bs fs vb vf):=HS.o.ps.kp (((Kp.refl [r] w).alloc _).trans k1 (by simp)) (by intro k hk;simp at hk;subst hk;exact HS.o.ap);have K1:=aj (((Kp.refl (r::foot p vb vf) w).alloc cJ).trans k1 (by simp));have Cz:=aE lJ;clear lJ k1;go_upto_region 14 with fail;have tE:w1.drew.heap[r]?=some (dF s (i+1) 0 0 p):=Bj.o;have Py:w1.drew.cell? ⟨r,2,none⟩=some (.pointer (some ⟨p,0,none⟩)):=by rw[aF tE];rfl
 have EW:ax (w1.drew.heap[w.heap.size]?=some cJ):=Z1.o;have EB:ax (dN w1.drew p bs fs vb vf):=P1.o.kp ((Kp.refl [] w1).drew) (by simp);have En:=aj K1.o.drew;have QK:=aj tE;have So:w.heap.size ∉ [r]:=by simp;omega
 clear c2 tE;go_region_held3 (fun w':ay=>w'.cell? ⟨r,2,none⟩=some (.pointer (some ⟨p,0,none⟩)))
  (first|with_reducible exact C4|with_reducible exact C3|with_reducible exact C2|with_reducible exact Py|(rw[aF (R5 _ _ _ _ _ _ _ _ _)];rfl))
  (first|(go_at_call 116;refine(abZ s p r 0 _ (by rw[<-HE.o];exact QK.o)).mono ?_;rintro _ w2 ⟨rfl,jn,k2⟩;have C2:w2.cell? ⟨r,2,none⟩=some (.pointer (some ⟨p,0,none⟩)):=(by rw[aF jn];rfl);have R2:=aj jn;have Z2:=aj (k2.keep EW.o So);have P2:=aj (EB.o.kp k2 (by intro k hk;simp at hk;subst hk;exact HS.o.ap));have K2:=aj (En.o.trans k2 (by simp));clear jn k2)|(go_at_call 53;refine(L0 0 _ (by decide)).mono ?_;rintro _ w3 ⟨rfl,b3⟩;have r3:=bV b3 R2.o;have C3:w3.cell? ⟨r,2,none⟩=some (.pointer (some ⟨p,0,none⟩)):=(by rw[aF r3];rfl);have R3:=aj r3;have Z3:=aj (bV b3 Z2.o);have P3:=aj (P2.o.kp ((Kp.refl [] _).below b3) (by simp));have K3:=aj (K2.o.below b3);clear b3 r3)|(go_at_call 119;refine(Q9 p (1 <<< 0) bs fs vb vf _ (by exact P3.o) hn).mono ?_;rintro _ w4 ⟨rfl,eg,dP,P4,k4,sx⟩;have R4:=k4.keep R3.o HS.o.ap;have C4:w4.cell? ⟨r,2,none⟩=some (.pointer (some ⟨p,0,none⟩)):=(by rw[aF R4];rfl);have z4:=k4.keep Z3.o (NF.o _ (aH _));obtain⟨⟨oy,oz,oB,oC,sR,sS,sU,sV,sX⟩,pF,pG,pH,pI,uU,uV,uW,uX,uY⟩:=gC z4;have R5:∀v0 v1 v2 v3 v4 v5 v6 v7 v8:aq,(((((((((w4.setCell ⟨w.heap.size,0,none⟩ v0).setCell ⟨w.heap.size,1,none⟩ v1).setCell ⟨w.heap.size,2,none⟩ v2).setCell ⟨w.heap.size,3,none⟩ v3).setCell ⟨w.heap.size,4,none⟩ v4).setCell ⟨w.heap.size,5,none⟩ v5).setCell ⟨w.heap.size,6,none⟩ v6).setCell ⟨w.heap.size,7,none⟩ v7).setCell ⟨w.heap.size,8,none⟩ v8).heap[r]?=some (dF s s.size 4 s.size p):=(fun _ _ _ _ _ _ _ _ _=>by simp only[aQ,az gF];exact R4);have Z4:=aj z4;have vx:=aj P4;have K4:=aj (K3.o.trans k4 (fun y hy=>.inl (by simp[hy])));have FR:=aj sx;have l3:=aE Z3.o;have oH:ax (∀g∈foot p eg dP,g∈foot p vb vf\/w.heap.size<=g):=(fun g hg=>by rcases sx g hg with e|e;exact .inl e;right;omega);clear z4 P4 sx R4))
 go_wp2;refine cF (v:=dQ false (1 <<< (ae bs)) (1 <<< (ae bs))) (kN (b:=w.heap.size) G5 rfl (by simp only[aQ,Z4.o];simp[eD])) rfl ?_;refine⟨false,1 <<< (ae bs),1 <<< (ae bs),bs ++ [1 <<< 0],fs ++ [0],eg,dP,rfl,⟨?_,?_,?_⟩,?_,oH.o,?_,fun hh=>absurd hh (by simp[de])⟩
 .exact R5 _ _ _ _ _ _ _ _ _
 .exact vx.o.kp ((Kp.refl [w.heap.size] w4).mQ (by simp) _ _ _ _ _ _ _ _ _) (by intro k hk;simp at hk;subst hk;exact fun hm=>by rcases FR.o _ hm with e|e;exact NF.o _ (aH _) e;omega)
 .intro hm;rcases oH.o _ hm with e|e
  .exact HS.o.ap e
  .omega
 .exact K4.o.mQ (.inr (aH _)) _ _ _ _ _ _ _ _ _
 .have:=HE.o;simp[de];omega
theorem agy(s:ByteArray)(hz:Nz s):∀n,(∀acc i,i<=s.size->(gt s i=0\/gt s i=124\/gt s i=41)->(pp s n 0 acc i).err=0->gt s (pp s n 0 acc i).j=0\/gt s (pp s n 0 acc i).j=41)/\(∀acc i,i<=s.size->(pp s n 1 acc i).err=0->gt s (pp s n 1 acc i).j=0\/gt s (pp s n 1 acc i).j=124\/gt s (pp s n 1 acc i).j=41):=by
 intro n;induction n with
 |zero=>exact⟨fun acc i _ _ h=>by simp[pp,de]at h,fun acc i _ h=>by simp[pp,de]at h⟩
 |succ n ih =>
  obtain⟨XG,ih1⟩:=ih;refine⟨fun acc i hi hg h=>?_,fun acc i hi h=>?_⟩
  ·(rw[OU]at h |-);by_cases g:gt s i=124
   ·(rw[aA g]at h |-);(have hl:i+1<=s.size:=by have:=hz i;omega);have hA:=(Ao s hz n).2.1 aD.aX (i+1) hl;have sA:=ih1 aD.aX (i+1) hl;generalize pp s n 1 aD.aX (i+1)=A at *;rcases hA with⟨a1,a2,a3,_,a5⟩|⟨a1,a2⟩
    ·(rw[az (by simp[a1])]at h |-);exact XG _ _ a5 (sA a1) h
    .rw[aA a1]at h;exact absurd h a1
   .rw[az g];rcases hg with e|e|e
    .exact .inl e
    .exact absurd e g
    .exact .inr e
  ·(rw[OV]at h |-);by_cases g:gt s i=0\/gt s i=124\/gt s i=41
   .rw[aA g];exact g
   ·(rw[az g]at h |-);(have hl:i<s.size:=by have:=hz i;omega);have hA:=(Ao s hz n).2.2 aD.aX i hl;generalize pp s n 2 aD.aX i=A at *;rcases hA with⟨a1,a2,a3,_,a5⟩|⟨a1,a2⟩
    ·(rw[az (by simp[a1])]at h |-);exact ih1 _ _ (Uq s hz 20 A.v A.j a5).2.2.2 h
    .rw[aA a1]at h;exact absurd h a1
theorem V1(s:ByteArray)(hz:Nz s)(n i:Nat)(hi:i<=s.size):((aR s n i).err=0/\(aR s n i).pl=0/\i<=(aR s n i).j/\(aR s n i).j<=s.size/\(gt s (aR s n i).j=0\/gt s (aR s n i).j=41))\/((aR s n i).err≠0/\(aR s n i).j=s.size):=by
 unfold aR;have hA:=(Ao s hz n).2.1 aD.aX i hi;have sA:=(agy s hz n).2 aD.aX i hi;generalize pp s n 1 aD.aX i=A at *;rcases hA with⟨a1,a2,a3,_,a5⟩|⟨a1,a2⟩
 .rw[az (by simp[a1])];rcases(Ao s hz n).1 A.v A.j a5 with⟨b1,b2,b3,_,b5⟩|b
  .exact .inl ⟨b1,b2,by omega,b5,(agy s hz n).1 A.v A.j a5 (sA a1) b1⟩
  .exact .inr b
 .rw[aA a1];exact .inr ⟨a1,a2⟩
theorem adM(s:ByteArray)(n i:Nat)(acc:aD)(hg:gt s i=40):pp s (n+1) 2 acc i=if (aR s n (i+1)).err≠0 then aR s n (i+1) else if gt s (aR s n (i+1)).j=0 then de s 4 s.size acc else good ((aR s n (i+1)).j+1) (aR s n (i+1)).v:=by
 rw[DY,aA hg];unfold aR;by_cases h:(pp s n 1 aD.aX (i+1)).err≠0
 .rw[aA h,aA h,aA h]
 .rw[az h,az h]
theorem ane(s:ByteArray)(m j:Nat):rR s m j=if (pp s m 2 aD.aX j).err≠0 then pp s m 2 aD.aX j else iQ s 20 (pp s m 2 aD.aX j).v (pp s m 2 aD.aX j).j:=rfl
theorem aiH(WV:∀(e1 e2:Bool) (f1 l1 f2 l2:Nat) (w:ay),aI aB 76 #[dQ e1 f1 l1,dQ e2 f2 l2] w fun x w'=>x=.returned (dQ (e1 || e2) (f1 ||| f2) (l1 ||| l2))/\Below w.heap.size w w')(s:ByteArray)(hz:Nz s)(hs:s.size<=16)(p r b0:Nat)(mw:b0<=100):∀n,(∀(i:Nat) (bs fs:List Nat) (vb vf:aq) (w:ay),St w s i 0 0 p r bs fs vb vf->ae bs<=b0+i->i<s.size->2*(s.size-i)+1<=n->gt s i≠124->gt s i≠41->aI aB 114 #[.pointer (some ⟨r,0,none⟩)] w (qO (pp s n 2 aD.aX i) s i p r bs fs vb vf w))/\(∀(i:Nat) (bs fs:List Nat) (vb vf:aq) (w:ay),St w s i 0 0 p r bs fs vb vf->ae bs<=b0+i->i<=s.size->2*(s.size-i)+2<=n->aI aB 74 #[.pointer (some ⟨r,0,none⟩)] w (qO (pp s n 1 aD.aX i) s i p r bs fs vb vf w)):=by
 intro n;induction n using Nat.strongRecOn with
 |ind n ih =>
  refine⟨fun i bs fs vb vf w h hb hi hf h1 h2=>?_,fun i bs fs vb vf w h hb hi hf=>?_⟩
  ·(obtain⟨k,rfl⟩:∃k,n=k+1:=⟨n-1,by omega⟩);(have h0:gt s i≠0:=fun e=>by have:=(hz i).1 e;omega);by_cases g1:gt s i=40
   .refine aiT s i p r bs fs vb vf w aD.aX (aR s k (i+1)) _ h hi hs hz g1 ?_ (V1 s hz k (i+1) hi) (adM s k i aD.aX g1);intro w' h';exact adK s k (i+1) p r bs fs vb vf w' _ rfl h' hz hs (by omega) hi (by omega) WV
     (fun m hm j bs' fs' eg dP w'' hj Cd _ vN hl h''=>(ih m (by omega)).2 j bs' fs' eg dP w'' h'' (by omega) hj Cd)
   .by_cases g2:gt s i=91
    .refine aiU s i p r bs fs vb vf w h hi hs (by omega) _ ?_ g2 hz;rw[DY,az g1,aA g2];rcases Ur s (i+1) hz with⟨a1,a2,_⟩|⟨a1,_⟩
     .rw[az (by simp[a1])];exact⟨rfl,a1.symm,a2.symm,fun _=>rfl⟩
     .rw[aA a1];exact⟨rfl,rfl,rfl,fun e=>absurd e a1⟩
    .by_cases g3:gt s i=46
     .rw[DY,az g1,az g2,aA g3];exact aiQ s i p r bs fs vb vf w h hi hs (by omega) g3
     .by_cases g4:gt s i=92
      .rw[DY,az g1,az g2,az g3,aA g4];by_cases g5:gt s (i+1)=0
       .rw[aA g5];exact aiS s i p r bs fs vb vf w h hi hs (by omega) aD.aX g4 (by have:=(hz (i+1)).1 g5;omega)
       .rw[az g5];exact aiR s i p r bs fs vb vf w h hi hs (by omega) g4 (by have:=(hz (i+1)).2;omega)
      .rw[DY,az g1,az g2,az g3,az g4];by_cases g5:gt s i=42\/gt s i=43\/gt s i=63\/gt s i=93
       .rw[aA g5];exact aiO s i p r bs fs vb vf w h hi hs aD.aX g5
       .rw[az g5];exact aiP s i p r bs fs vb vf w h hi hs (by omega) g1 g2 g3 g4 h2 (by omega) h1 (by omega) (by omega) (by omega)
  .refine ajm s n i p r bs fs vb vf w _ rfl h hz hs (by omega) hi hf ?_;intro m hm j bs' fs' eg dP w' hj Cd g1 g2 hl vN DH h';refine anu s j p r bs' fs' eg dP w' (pp s m 2 aD.aX j) _ h' hz hs hl ?_ ?_ (ane s m j)
   .intro w'' h'';exact(ih m hm).1 j bs' fs' eg dP w'' h'' (by omega) hj Cd g1 g2
   .rcases(Ao s hz m).2.2 aD.aX j hj with⟨a1,a2,a3,_,a5⟩|a
    .exact .inl ⟨a1,a2,a3,a5⟩
    .exact .inr a
def fb(s:ByteArray):Nat->Nat->Option Nat
 |0,_=>none
 |n+1,i=>if gt s i<32\/126<gt s i then some i else fb s n (i+1)
theorem aj1(s:ByteArray):∀n i,fb s n i=none->∀j,i<=j->j<i+n->32<=gt s j/\gt s j<=126:=by
 intro n;induction n with
 |zero=>intro i _ j h1 h2;omega
 |succ n ih =>
  intro i h j h1 h2;rw[fb]at h;split at h
  .cases h
  .rename_i hb;by_cases e:j=i
   .subst e;omega
   .exact ih (i+1) h j (by omega) (by omega)
theorem aeC(s:ByteArray)(j:Nat)(h:s.size<=j):gt s j=0:=by
 unfold gt;have:s.data.size<=j:=h;rw[Array.getElem?_eq_none this];rfl
theorem ab4(s:ByteArray)(h:fb s s.size 0=none):Nz s:=fun j=>by
 constructor
 .intro e
  rcases Nat.lt_or_ge j s.size with hj|hj
  .have:=aj1 s _ _ h j (by omega) (by omega);omega
  .exact hj
 .exact aeC s j
def cO(s:ByteArray):PR aD :=
 if 16<s.size then⟨2,0,0,aD.aX⟩
 else match fb s s.size 0 with
  |some k=>⟨3,k,0,aD.aX⟩
  |none=>if (aR s 40 0).err≠0 then aR s 40 0 else if (aR s 40 0).j=s.size then aR s 40 0 else⟨5,(aR s 40 0).j,0,aD.aX⟩
theorem agI(s:ByteArray)(h:s.size<=16)(k:Nat)(hf:fb s s.size 0=some k):cO s=⟨3,k,0,aD.aX⟩:=by
 unfold cO;rw[az (by omega),hf]
theorem agJ(s:ByteArray)(h:s.size<=16)(hf:fb s s.size 0=none):cO s=if (aR s 40 0).err≠0 then aR s 40 0 else if (aR s 40 0).j=s.size then aR s 40 0 else⟨5,(aR s 40 0).j,0,aD.aX⟩:=by
 unfold cO;rw[az (by omega),hf]
end Go.Proofs.YtbjdkbcfpmeneaaGreat
